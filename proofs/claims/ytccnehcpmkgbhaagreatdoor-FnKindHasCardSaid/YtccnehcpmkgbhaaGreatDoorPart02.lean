/- A part. -/
import Derived.Test.YtccnehcpmkgbhaaGreatDoorPart00
import Derived.WalkSmall
namespace Go.Proofs.YtccnehcpmkgbhaaGreatDoor
open Go Go.RowKit
set_option maxHeartbeats 800000
def nameByte (c : UInt8) : Bool := (97 ≤ c.toNat && c.toNat ≤ 122) || (48 ≤ c.toNat && c.toNat ≤ 57)
def nameFirst (c : UInt8) : Bool := 97 ≤ c.toNat && c.toNat ≤ 122
def textByte (c : UInt8) : Bool := 32 ≤ c.toNat && c.toNat ≤ 126 && c.toNat != 34
def allTo (p : UInt8 → Bool) (s : ByteArray) (k : Nat) : Prop := ∀ j, j < k → (h : j < s.size) → p s[j] = true
def nameOkB (s : ByteArray) : Bool := 1 ≤ s.size && s.size ≤ 8 && nameFirst s[0]! && s.data.toList.all nameByte
def textOkB (s : ByteArray) : Bool := s.size ≤ 60 && s.data.toList.all textByte
theorem all_of {p : UInt8 → Bool} {s : ByteArray} (h : allTo p s s.size) : s.data.toList.all p = true := by
 rw [List.all_eq_true]
 intro x hx
 obtain ⟨i, hi, rfl⟩ := List.getElem_of_mem hx
 have hi' : i < s.size := by simpa using hi
 exact h i hi' hi'
theorem all_not {p : UInt8 → Bool} {s : ByteArray} {k : Nat} (hk : k < s.size) (h : p s[k] = false) : s.data.toList.all p = false := by
 rw [Bool.eq_false_iff]
 intro ha
 rw [List.all_eq_true] at ha
 have := ha s[k] (by have : s[k] = s.data.toList[k]'(by simpa using hk) := rfl; rw [this]; exact List.getElem_mem _)
 rw [h] at this
 cases this
theorem ret_bool {b c : Bool} (h : b = c) : Ending.returned (.bool b) = .returned (.bool c) := by rw [h]
theorem textOk_not {s : ByteArray} {k : Nat} (hk : k < s.size) (h : textByte s[k] = false) : textOkB s = false := by
 simp [textOkB, all_not hk h]
theorem textOk_yes {s : ByteArray} (h : s.size ≤ 60) (ha : allTo textByte s s.size) : textOkB s = true := by
 simp [textOkB, h]; simpa using all_of ha
theorem textByte_no {c : UInt8} (h : c.toNat < 32 ∨ 126 < c.toNat ∨ c.toNat = 34) : textByte c = false := by
 unfold textByte; rcases h with h | h | h
 · rw [show decide (32 ≤ c.toNat) = false from by simp; omega]; rfl
 · rw [show decide (c.toNat ≤ 126) = false from by simp; omega]; simp
 · rw [h]; rfl
theorem textByte_yes {c : UInt8} (h : 32 ≤ c.toNat ∧ c.toNat ≤ 126 ∧ c.toNat ≠ 34) : textByte c = true := by
 unfold textByte; simp [h.1, h.2.1, h.2.2]
theorem allTo_succ {p : UInt8 → Bool} {s : ByteArray} {k : Nat} (h : allTo p s k) (hk : k < s.size) (hp : p s[k] = true) : allTo p s (k + 1) := by
 intro j hj hs
 by_cases e : j = k
 · subst e; exact hp
 · exact h j (by omega) hs
theorem nameByte_yes {c : UInt8} (h : (97 ≤ c.toNat ∧ c.toNat ≤ 122) ∨ (48 ≤ c.toNat ∧ c.toNat ≤ 57)) : nameByte c = true := by
 unfold nameByte; rcases h with h | h <;> simp [h.1, h.2]
theorem nameByte_no {c : UInt8} (h : c.toNat < 48 ∨ (57 < c.toNat ∧ c.toNat < 97) ∨ 122 < c.toNat) : nameByte c = false := by
 unfold nameByte
 simp only [Bool.or_eq_false_iff, Bool.and_eq_false_iff, decide_eq_false_iff_not]
 omega
theorem nameOk_len {s : ByteArray} (h : s.size < 1 ∨ 8 < s.size) : nameOkB s = false := by
 unfold nameOkB
 rcases h with h | h
 · rw [show decide (1 ≤ s.size) = false from decide_eq_false (by omega)]; rfl
 · rw [show decide (s.size ≤ 8) = false from decide_eq_false (by omega)]; simp
theorem nameOk_first {s : ByteArray} (h0 : 0 < s.size) (h : s[0].toNat < 97 ∨ 122 < s[0].toNat) : nameOkB s = false := by
 unfold nameOkB
 rw [getElem!_pos s 0 h0, show nameFirst s[0] = false from by unfold nameFirst; simp only [Bool.and_eq_false_iff, decide_eq_false_iff_not]; omega]
 simp
theorem nameOk_not {s : ByteArray} {k : Nat} (hk : k < s.size) (h : nameByte s[k] = false) : nameOkB s = false := by
 simp [nameOkB, all_not hk h]
theorem nameOk_yes {s : ByteArray} (h1 : 0 < s.size) (h2 : s.size ≤ 8) (hf : 97 ≤ s[0].toNat ∧ s[0].toNat ≤ 122) (ha : allTo nameByte s s.size) : nameOkB s = true := by
 unfold nameOkB
 rw [all_of ha, getElem!_pos s 0 h1, show nameFirst s[0] = true from by unfold nameFirst; simp [hf.1, hf.2]]
 simp; omega
theorem getD_lt (l : List ByteArray) (i : Nat) (h : i < l.length) : l.getD i ByteArray.empty = l[i] := by simp [h]
def good (ns : List ByteArray) (i : Nat) : Bool := nameOkB (ns.getD i ByteArray.empty) && (decide (i = 0) || Op.bytesLess (ns.getD (i - 1) ByteArray.empty).toList (ns.getD i ByteArray.empty).toList)
def riseB (ns : List ByteArray) : Bool := (List.range ns.length).all (good ns)
theorem rise_yes {ns : List ByteArray} (h : ∀ i, i < ns.length → good ns i = true) : riseB ns = true := by
 unfold riseB; rw [List.all_eq_true]; intro i hi; exact h i (List.mem_range.1 hi)
theorem rise_no {ns : List ByteArray} {i : Nat} (hi : i < ns.length) (h : good ns i = false) : riseB ns = false := by
 unfold riseB; rw [Bool.eq_false_iff]; intro ha; rw [List.all_eq_true] at ha
 have := ha i (List.mem_range.2 hi); rw [h] at this; cases this
theorem good_name {ns : List ByteArray} {i : Nat} (hi : i < ns.length) (h : nameOkB ns[i] = false) : good ns i = false := by
 unfold good; rw [getD_lt _ _ hi, h]; rfl
theorem good_zero {ns : List ByteArray} (hi : 0 < ns.length) (h : nameOkB ns[0] = true) : good ns 0 = true := by
 unfold good; rw [getD_lt _ _ hi, h]; rfl
theorem good_pos {ns : List ByteArray} {i : Nat} (hi : i < ns.length) (h0 : 0 < i) (h : nameOkB ns[i] = true) : good ns i = Op.bytesLess (ns[i - 1]'(by omega)).toList ns[i].toList := by
 unfold good; rw [getD_lt _ _ hi, getD_lt _ _ (show i - 1 < ns.length by omega), h, decide_eq_false (by omega)]; simp
def aloneB (t : Tr) : Bool :=
 if t.sort = 1 then decide (-999999999 ≤ t.num ∧ t.num ≤ 999999999) && decide (t.text.toList = []) && decide (t.names.length = 0) && decide (t.kids.length = 0)
 else if t.sort = 2 then decide (t.num = 0) && textOkB t.text && decide (t.names.length = 0) && decide (t.kids.length = 0)
 else if t.sort = 3 then decide (0 ≤ t.num ∧ t.num ≤ 1) && decide (t.text.toList = []) && decide (t.names.length = 0) && decide (t.kids.length = 0)
 else if t.sort = 4 then decide (t.num = 0) && decide (t.text.toList = []) && decide (t.names.length = 0) && decide (t.kids.length ≤ 20)
 else if t.sort = 5 then decide (t.num = 0) && decide (t.text.toList = []) && decide (t.names.length = t.kids.length) && riseB t.names
 else if t.sort = 6 then decide (t.num = 0) && decide (t.text.toList = []) && decide (t.names.length = 0) && decide (t.kids.length ≤ 1)
 else false
mutual
def pT : Tr → Int → Int
 | .mk s n tx ns ks, d => if 6 < d ∨ aloneB (.mk s n tx ns ks) = false then -1 else pK ks d 1
def pK : List Tr → Int → Int → Int
 | [], _, n => n
 | t :: r, d, n => if pT t (d + 1) < 0 ∨ 120 < n + pT t (d + 1) then -1 else pK r d (n + pT t (d + 1))
end
theorem pT_eq (t : Tr) (d : Int) : pT t d = if 6 < d ∨ aloneB t = false then -1 else pK t.kids d 1 := by
 obtain ⟨s, n, tx, ns, ks⟩ := t
 rw [pT]; rfl
theorem pK_bd (ks : List Tr) (d n : Int) (h0 : 1 ≤ n) (h1 : n ≤ 120) : pK ks d n = -1 ∨ (1 ≤ pK ks d n ∧ pK ks d n ≤ 120) := by
 induction ks generalizing n with
 | nil => rw [pK]; omega
 | cons t r ih =>
   rw [pK]
   split
   · exact Or.inl rfl
   · exact ih _ (by omega) (by omega)
theorem pT_bd (t : Tr) (d : Int) : pT t d = -1 ∨ (1 ≤ pT t d ∧ pT t d ≤ 120) := by
 rw [pT_eq]
 split
 · exact Or.inl rfl
 · exact pK_bd _ _ _ (by omega) (by omega)
theorem pK_step {ks : List Tr} {k : Nat} (hk : k < ks.length) (d n : Int) : pK (ks.drop k) d n = if pT ks[k] (d + 1) < 0 ∨ 120 < n + pT ks[k] (d + 1) then -1 else pK (ks.drop (k + 1)) d (n + pT ks[k] (d + 1)) := by
 rw [List.drop_eq_getElem_cons hk, pK]
def ownB (t : Tr) : Bool :=
 if t.sort = 1 then decide (t.text.toList = []) && decide (t.names = []) && decide (t.kids.length = 0)
 else if t.sort = 2 then decide (t.num = 0) && decide (t.names = []) && decide (t.kids.length = 0)
 else if t.sort = 3 then decide (t.text.toList = []) && decide (t.names = []) && decide (t.kids.length = 0)
 else if t.sort = 4 then decide (t.num = 0) && decide (t.text.toList = []) && decide (t.names = [])
 else if t.sort = 5 then decide (t.num = 0) && decide (t.text.toList = [])
 else if t.sort = 6 then decide (t.num = 0) && decide (t.text.toList = []) && decide (t.names = [])
 else false
def newB (t : Tr) : Bool :=
 if t.sort = 1 then decide (-999999999 ≤ t.num ∧ t.num ≤ 999999999)
 else if t.sort = 2 then textOkB t.text
 else if t.sort = 3 then decide (0 ≤ t.num ∧ t.num ≤ 1)
 else if t.sort = 4 then decide (t.kids.length ≤ 20)
 else if t.sort = 5 then decide (t.names.length = t.kids.length) && riseB t.names
 else if t.sort = 6 then decide (t.kids.length ≤ 1)
 else false
theorem alone_eq (t : Tr) : aloneB t = (ownB t && newB t) := by
 unfold aloneB ownB newB
 split
 · rw [Bool.eq_iff_iff]; simp; grind
 split
 · rw [Bool.eq_iff_iff]; simp; grind
 split
 · rw [Bool.eq_iff_iff]; simp; grind
 split
 · rw [Bool.eq_iff_iff]; simp
 split
 · rw [Bool.eq_iff_iff]; simp; grind
 split
 · rw [Bool.eq_iff_iff]; simp
 rfl

theorem l6In_any (n lo hi : Int) (w : World) :
 Calls Tryz.prog 70 #[.int .i64 n, .int .i64 lo, .int .i64 hi] w fun e w' => e = .returned (.bool (decide (lo ≤ n ∧ n ≤ hi))) ∧ w' = w := by
 by_cases h1 : lo ≤ n
 · by_cases h2 : n ≤ hi
   · go_enter Tryz.func70, Tryz.ntmps70
     go_wp2_with fail
     go_ret
     exact ⟨by simp [h1, h2], rfl⟩
   · go_enter Tryz.func70, Tryz.ntmps70
     go_wp2_with fail
     go_ret
     exact ⟨ret_bool (by symm; simp; omega), rfl⟩
 · go_enter Tryz.func70, Tryz.ntmps70
   go_wp2_with fail
   go_ret
   exact ⟨ret_bool (by symm; simp; omega), rfl⟩
theorem l6NameOk_any (s : ByteArray) (w : World) (hs : s.size ≤ 9223372036854775807) :
 Calls Tryz.prog 96 #[.string s] w fun e w' => e = .returned (.bool (nameOkB s)) ∧ w' = w := by
 by_cases h1 : 1 ≤ s.size ∧ s.size ≤ 8
 · obtain ⟨h1, h8⟩ := h1
   have hd : decide ((1 : Int) ≤ s.size ∧ (s.size : Int) ≤ 8) = true := by simp; omega
   have hc0 : s[0].toNat < 97 ∨ 122 < s[0].toNat ∨ (97 ≤ s[0].toNat ∧ s[0].toNat ≤ 122) := by omega
   rcases hc0 with hc | hc | hc
   · go_enter Tryz.func96, Tryz.ntmps96
     go_wp2_with (go_at_call 70; refine (l6In_any _ _ _ _).mono ?_; rintro e w' ⟨rfl, rfl⟩)
     go_ret
     exact ⟨ret_bool (nameOk_first (by omega) (Or.inl hc)).symm, rfl⟩
   · go_enter Tryz.func96, Tryz.ntmps96
     go_wp2_with (go_at_call 70; refine (l6In_any _ _ _ _).mono ?_; rintro e w' ⟨rfl, rfl⟩)
     go_ret
     exact ⟨ret_bool (nameOk_first (by omega) (Or.inr hc)).symm, rfl⟩
   · have HF := hH hc
     obtain ⟨hca, hcb⟩ := hc
     go_enter Tryz.func96, Tryz.ntmps96
     go_wp2_with (go_at_call 70; refine (l6In_any _ _ _ _).mono ?_; rintro e w' ⟨rfl, rfl⟩)
     go_loop [3] (fun i => ∃ k : Nat, k ≤ s.size ∧ i = .int .i64 k ∧ Hid (allTo nameByte s k)) (fun i => s.size - (intOf i).toNat)
     case atStart => exact ⟨0, Nat.zero_le _, rfl, fun j hj => by omega⟩
     case round =>
      obtain ⟨k, hk, rfl, HA⟩ := hrel
      by_cases hlt : k < s.size
      · have hc : s[k].toNat < 48 ∨ (57 < s[k].toNat ∧ s[k].toNat < 97) ∨ 122 < s[k].toNat ∨ (97 ≤ s[k].toNat ∧ s[k].toNat ≤ 122) ∨ (48 ≤ s[k].toNat ∧ s[k].toNat ≤ 57) := by omega
        rcases hc with hc | hc | hc | hc | hc
        · have HC := hH (nameOk_not hlt (nameByte_no (Or.inl hc)))
          have d1 : decide ((97 : Int) ≤ s[k].toNat) = false := by simp; omega
          have d2 : decide ((s[k].toNat : Int) ≤ 122) = true := by simp; omega
          have d3 : decide ((48 : Int) ≤ s[k].toNat) = false := by simp; omega
          have d4 : decide ((s[k].toNat : Int) ≤ 57) = true := by simp; omega
          go_wp2_with fail
          go_ret
          exact ⟨ret_bool (uh HC).symm, rfl⟩
        · have HC := hH (nameOk_not hlt (nameByte_no (Or.inr (Or.inl hc))))
          obtain ⟨hc1, hc2⟩ := hc
          have d1 : decide ((97 : Int) ≤ s[k].toNat) = false := by simp; omega
          have d2 : decide ((s[k].toNat : Int) ≤ 122) = true := by simp; omega
          have d3 : decide ((48 : Int) ≤ s[k].toNat) = true := by simp; omega
          have d4 : decide ((s[k].toNat : Int) ≤ 57) = false := by simp; omega
          go_wp2_with fail
          go_ret
          exact ⟨ret_bool (uh HC).symm, rfl⟩
        · have HC := hH (nameOk_not hlt (nameByte_no (Or.inr (Or.inr hc))))
          have d1 : decide ((97 : Int) ≤ s[k].toNat) = true := by simp; omega
          have d2 : decide ((s[k].toNat : Int) ≤ 122) = false := by simp; omega
          have d3 : decide ((48 : Int) ≤ s[k].toNat) = true := by simp; omega
          have d4 : decide ((s[k].toNat : Int) ≤ 57) = false := by simp; omega
          go_wp2_with fail
          go_ret
          exact ⟨ret_bool (uh HC).symm, rfl⟩
        · have HN := hH (allTo_succ HA.out hlt (nameByte_yes (Or.inl hc)))
          obtain ⟨hc1, hc2⟩ := hc
          have d1 : decide ((97 : Int) ≤ s[k].toNat) = true := by simp; omega
          have d2 : decide ((s[k].toNat : Int) ≤ 122) = true := by simp; omega
          have d3 : decide ((48 : Int) ≤ s[k].toNat) = true := by simp; omega
          have d4 : decide ((s[k].toNat : Int) ≤ 57) = false := by simp; omega
          go_wp2_with fail
          go_round
          case rel => exact ⟨k + 1, by omega, by go_num, HN⟩
          case measure => simp [intOf]; omega
        · have HN := hH (allTo_succ HA.out hlt (nameByte_yes (Or.inr hc)))
          obtain ⟨hc1, hc2⟩ := hc
          have d1 : decide ((97 : Int) ≤ s[k].toNat) = false := by simp; omega
          have d2 : decide ((s[k].toNat : Int) ≤ 122) = true := by simp; omega
          have d3 : decide ((48 : Int) ≤ s[k].toNat) = true := by simp; omega
          have d4 : decide ((s[k].toNat : Int) ≤ 57) = true := by simp; omega
          go_wp2_with fail
          go_round
          case rel => exact ⟨k + 1, by omega, by go_num, HN⟩
          case measure => simp [intOf]; omega
      · go_wp2_with fail
        go_ret
        obtain rfl : k = s.size := by omega
        exact ⟨ret_bool (nameOk_yes (by omega) (by omega) (uh HF) HA.out).symm, rfl⟩
 · have hd : decide ((1 : Int) ≤ s.size ∧ (s.size : Int) ≤ 8) = false := by simp; omega
   go_enter Tryz.func96, Tryz.ntmps96
   go_wp2_with (go_at_call 70; refine (l6In_any _ _ _ _).mono ?_; rintro e w' ⟨rfl, rfl⟩)
   go_ret
   exact ⟨ret_bool (nameOk_len (by omega)).symm, rfl⟩
theorem geqS (t : TypeId) (a b : ByteArray) : binOp .geq t (.string a) (.string b) = pure (.bool !(Op.bytesLess a.toList b.toList)) := by simp [binOp, Op.stringOp]
theorem l1Rise_any (v : Value) (ss : List ByteArray) (w : World) {P : Nat → Prop} (hP : ∀ b, P b → b < w.heap.size) (hv : StrsAt P w v ss) :
 Calls Tryz.prog 71 #[v] w fun e w' => e = .returned (.bool (riseB ss)) ∧ Below w.heap.size w w' := by
 obtain ⟨a, cap, rfl, hlen, hc⟩ := hv
 have HC := hH hc; have HP := hH hP
 clear hc hP
 go_enter Tryz.func71, Tryz.ntmps71
 go_wp2_with fail
 go_loopw [3] (fun i wr => ∃ (k : Nat), k ≤ ss.length ∧ i = .int .i64 k ∧ Hid (∀ j, j < k → good ss j = true) ∧ Below w.heap.size w wr) (fun i _ => ss.length - (intOf i).toNat)
 case atStart => exact ⟨0, Nat.zero_le _, rfl, hH (fun j hj => by omega), Below.refl _ _⟩
 case round =>
  obtain ⟨k, hk, rfl, HG, hb⟩ := hrel
  by_cases hlt : k < ss.length
  · obtain ⟨b, o, rfl, hpb, hcell, hsz⟩ := uh HC k hlt
    have e1 : wr.cell? ⟨b, o + k, none⟩ = some (.string ss[k]) := by rw [hb.cell (uh HP b hpb)]; exact hcell
    clear hcell hpb
    have hname := fun w => l6NameOk_any ss[k] w hsz
    have HN := hH hname; clear hname
    by_cases hn : nameOkB ss[k] = true
    · by_cases h0 : 0 < k
      · obtain ⟨b', o', he, hpb, hcell, -⟩ := uh HC (k - 1) (by omega)
        simp only [Option.some.injEq, Addr.mk.injEq, and_true] at he
        obtain ⟨rfl, rfl⟩ := he
        have e0 : wr.cell? ⟨b, o + (k - 1), none⟩ = some (.string (ss[k - 1]'(by omega))) := by rw [hb.cell (uh HP b hpb)]; exact hcell
        have hd0 : decide ((0 : Int) < k) = true := by simp; omega
        have hgd := good_pos hlt h0 hn
        generalize hlb : Op.bytesLess (ss[k - 1]'(by omega)).toList ss[k].toList = lb at hgd
        have hi1 : ((k : Int) - 1).toNat = k - 1 := by omega
        have HGD := hH hgd
        clear hcell hpb hgd
        have hge := geqS
        cases lb
        · have HR := hH (rise_no hlt (uh HGD))
          go_wp2_with fail
          go_quiet ((go_at_call 96; exact Calls.quiet_of_same (uh HN _)))
          go_wp2_with fail
          go_ret
          exact ⟨ret_bool (uh HR).symm, below_drewN hb _⟩
        · go_wp2_with fail
          go_quiet ((go_at_call 96; exact Calls.quiet_of_same (uh HN _)))
          go_wp2_with fail
          go_roundw
          case rel => exact ⟨k + 1, by omega, by go_num, hH (fun j hj => by
           by_cases e : j = k
           · subst e; exact uh HGD
           · exact HG.out j (by omega)), below_drewN hb _⟩
          case measure => simp [intOf]; omega
      · have hd0 : decide (0 < k) = false := by simp; omega
        have HK0 : Hid (k = 0) := by show k = 0; omega
        clear h0
        go_wp2_with fail
        go_quiet ((go_at_call 96; exact Calls.quiet_of_same (uh HN _)))
        go_wp2_with fail
        go_roundw
        case rel => exact ⟨k + 1, by omega, by go_num, hide (fun j hj => by have := HK0.out; subst this; obtain rfl : j = 0 := by omega
                                                                            exact good_zero hlt hn), below_drewN hb _⟩
        case measure => simp [intOf]; omega
    · have hn' : nameOkB ss[k] = false := by simpa using hn
      have HR := hH (rise_no hlt (good_name hlt hn'))
      clear hn
      go_wp2_with fail
      go_quiet ((go_at_call 96; exact Calls.quiet_of_same (uh HN _)))
      go_wp2_with fail
      go_ret
      exact ⟨ret_bool (uh HR).symm, below_drewN hb _⟩
  · go_wp2_with fail
    go_ret
    exact ⟨ret_bool (rise_yes (fun i hi => HG.out i (by omega))).symm, hb⟩

def shB (k : Kd) : Bool :=
 if k.sort = 1 ∨ k.sort = 2 ∨ k.sort = 3 then decide (k.kids.length = 0 ∧ k.names.length = 0)
 else if k.sort = 4 ∨ k.sort = 6 then decide (k.kids.length = 1 ∧ k.names.length = 0)
 else if k.sort = 5 then decide (k.kids.length = k.names.length) && riseB k.names
 else false
mutual
def qT : Kd → Int → Int
 | .mk s ns ks, d => if 6 < d ∨ shB (.mk s ns ks) = false then -1 else qK ks d 1
def qK : List Kd → Int → Int → Int
 | [], _, n => n
 | t :: r, d, n => if qT t (d + 1) < 0 ∨ 40 < n + qT t (d + 1) then -1 else qK r d (n + qT t (d + 1))
end
theorem qT_eq (t : Kd) (d : Int) : qT t d = if 6 < d ∨ shB t = false then -1 else qK t.kids d 1 := by
 obtain ⟨s, ns, ks⟩ := t
 rw [qT]; rfl
theorem qK_bd (ks : List Kd) (d n : Int) (h0 : 1 ≤ n) (h1 : n ≤ 40) : qK ks d n = -1 ∨ (1 ≤ qK ks d n ∧ qK ks d n ≤ 40) := by
 induction ks generalizing n with
 | nil => rw [qK]; omega
 | cons t r ih =>
   rw [qK]
   split
   · exact Or.inl rfl
   · exact ih _ (by omega) (by omega)
theorem qT_bd (t : Kd) (d : Int) : qT t d = -1 ∨ (1 ≤ qT t d ∧ qT t d ≤ 40) := by
 rw [qT_eq]
 split
 · exact Or.inl rfl
 · exact qK_bd _ _ _ (by omega) (by omega)
theorem qK_step {ks : List Kd} {k : Nat} (hk : k < ks.length) (d n : Int) : qK (ks.drop k) d n = if qT ks[k] (d + 1) < 0 ∨ 40 < n + qT ks[k] (d + 1) then -1 else qK (ks.drop (k + 1)) d (n + qT ks[k] (d + 1)) := by
 rw [List.drop_eq_getElem_cons hk, qK]
mutual
def pord : Kd → Int → List (Int × Kd)
 | .mk s ns ks, l => (l, .mk s ns ks) :: pordK ks (l + 1)
def pordK : List Kd → Int → List (Int × Kd)
 | [], _ => []
 | t :: r, l => pord t l ++ pordK r l
end
theorem pord_eq (t : Kd) (l : Int) : pord t l = (l, t) :: pordK t.kids (l + 1) := by
 obtain ⟨s, ns, ks⟩ := t
 rw [pord]; rfl
def gdB (x : Int × Kd) : Bool := decide (x.1 ≤ 6) && shB x.2
mutual
theorem qT_pord : ∀ (t : Kd) (d : Int), qT t d = if (pord t d).all gdB = true ∧ (pord t d).length ≤ 40 then ((pord t d).length : Int) else -1
 | .mk s ns ks, d => by
   rw [qT, pord]
   by_cases h : 6 < d ∨ shB (.mk s ns ks) = false
   · rw [if_pos h, if_neg]
     rintro ⟨h1, -⟩
     simp only [List.all_cons, Bool.and_eq_true, gdB, decide_eq_true_eq] at h1
     rcases h with h | h
     · omega
     · rw [h] at h1; simp at h1
   · have h1 : d ≤ 6 := by omega
     have h2 : shB (.mk s ns ks) = true := by
      cases hh : shB (.mk s ns ks)
      · exact absurd (Or.inr hh) h
      · rfl
     have hg : gdB (d, .mk s ns ks) = true := by simp [gdB, h1, h2]
     rw [if_neg h, qK_pord ks d 1 (by omega) (by omega)]
     simp only [List.all_cons, hg, Bool.true_and, List.length_cons]
     by_cases hx : (pordK ks (d + 1)).all gdB = true ∧ (1 : Int) + (pordK ks (d + 1)).length ≤ 40
     · rw [if_pos hx, if_pos ⟨hx.1, by omega⟩]; omega
     · rw [if_neg hx, if_neg (fun hy => hx ⟨hy.1, by omega⟩)]
theorem qK_pord : ∀ (ks : List Kd) (d n : Int), 1 ≤ n → n ≤ 40 → qK ks d n = if (pordK ks (d + 1)).all gdB = true ∧ n + (pordK ks (d + 1)).length ≤ 40 then n + ((pordK ks (d + 1)).length : Int) else -1
 | [], d, n => by
   intro h1 h2
   rw [qK, pordK]
   simp [h2]
 | t :: r, d, n => by
   intro h1 h2
   rw [qK, pordK, qT_pord t (d + 1)]
   simp only [List.all_append, List.length_append, Bool.and_eq_true]
   by_cases ha : (pord t (d + 1)).all gdB = true ∧ (pord t (d + 1)).length ≤ 40
   · rw [if_pos ha]
     by_cases hb : n + ((pord t (d + 1)).length : Int) ≤ 40
     · rw [if_neg (by omega), qK_pord r d _ (by omega) hb]
       by_cases hx : (pordK r (d + 1)).all gdB = true ∧ n + ((pord t (d + 1)).length : Int) + (pordK r (d + 1)).length ≤ 40
       · rw [if_pos hx, if_pos ⟨⟨ha.1, hx.1⟩, by omega⟩]; omega
       · rw [if_neg hx, if_neg (fun hy => hx ⟨hy.1.2, by omega⟩)]
     · rw [if_pos (by omega), if_neg (fun hy => by omega)]
   · rw [if_neg ha, if_pos (by omega), if_neg (fun hy => ha ⟨hy.1.1, by omega⟩)]
end
theorem qT_start (t : Kd) : decide (0 < qT t 1) = ((pord t 1).all gdB && decide ((pord t 1).length ≤ 40)) := by
 have hl : 0 < (pord t 1).length := by rw [pord_eq]; simp
 rw [qT_pord]
 by_cases h : (pord t 1).all gdB = true ∧ (pord t 1).length ≤ 40
 · rw [if_pos h]; simp only [h.1, h.2, decide_true, Bool.and_self]; simp; omega
 · rw [if_neg h]
   symm
   rw [show decide ((0 : Int) < -1) = false from rfl]
   cases hh : (pord t 1).all gdB
   · rfl
   · simp only [Bool.true_and, decide_eq_false_iff_not]; exact fun hy => h ⟨hh, hy⟩
theorem ksz_w (t : Kd) : ksz t ≤ wKd t + 1 := by
 have key : ∀ n, ∀ t : Kd, ksz t ≤ n → ksz t ≤ wKd t + 1 := by
  intro n
  induction n with
  | zero => intro t h; obtain ⟨s, ns, ks⟩ := t; rw [ksz] at h; omega
  | succ n ih =>
    intro t h
    obtain ⟨s, ns, ks⟩ := t
    rw [ksz] at h ⊢
    rw [wKd]
    have : ∀ l : List Kd, klsz l ≤ n → klsz l ≤ wKs l := by
     intro l
     induction l with
     | nil => intro _; simp [klsz]
     | cons a r ihl =>
       intro hl
       rw [klsz] at hl ⊢
       rw [wKs]
       have h1 := ih a (by omega)
       have h2 := ihl (by omega)
       omega
    have := this ks (by omega)
    omega
 exact key _ t (Nat.le_refl _)

def KPartsSaid (n : Nat) : Prop := ∀ (t : Kd), ksz t < n → ∀ (P : Nat → Prop) (c : C3) (d : Int) (w : World), (∀ b, P b → b < w.heap.size) → KRep P w t c → 1 ≤ d → d ≤ 7 →
    Calls Tryz.prog 45 #[.agg #[c.c0, c.c1, c.c2], .int .i64 d] w fun e w' => e = .returned (.int .i64 (qT t d)) ∧ Below w.heap.size w w'
theorem l2Parts_no (t : Kd) (P : Nat → Prop) (c : C3) (d : Int) (w : World) (hP : ∀ b, P b → b < w.heap.size) (hrep : KRep P w t c) (hno : 6 < d ∨ shB t = false) :
 Calls Tryz.prog 45 #[.agg #[c.c0, c.c1, c.c2], .int .i64 d] w fun e w' => e = .returned (.int .i64 (-1)) ∧ Below w.heap.size w w' := by
 obtain ⟨c0, c1, c2⟩ := c
 obtain ⟨e0, -, hns, a, cap, e2, hlen, -⟩ := hrep.open
 simp only at e0 e2 hns
 have HN := hH hns
 obtain ⟨a3, cap3, e1, hl3, -⟩ := hns
 subst e0 e1 e2
 clear hrep
 have HP := hH hP; clear hP
 have hbx : ∀ o, Below w.heap.size w (w.alloc o) := fun o => (Below.refl _ _).alloc (Nat.le_refl _) o
 have HBX := hH hbx; clear hbx
 have hcall : ∀ o, Calls Tryz.prog 71 #[.slice a3 t.names.length cap3] (w.alloc o) fun e w' => e = .returned (.bool (riseB t.names)) ∧ Below (w.alloc o).heap.size (w.alloc o) w' := fun o =>
  l1Rise_any _ t.names (w.alloc o) (P := P) (fun b hb => Nat.lt_of_lt_of_le (uh HP b hb) (uh HBX o).size) ((uh HN).carry (fun b hb => (uh HBX o).block b (uh HP b hb)) (fun _ h => h))
 have HC := hH hcall; clear hcall
 by_cases hd6 : 6 < d
 · go_enter Tryz.func45, Tryz.ntmps45
   go_wp2_with fail
   go_ret
   exact ⟨rfl, uh HBX _⟩
 have hsh : shB t = false := hno.resolve_left hd6
 clear hno
 by_cases h1 : t.sort = 1
 · have b1 : (t.sort == 5) = false := by simp [h1]
   have b2 : (t.sort != 5) = true := by simp [h1]
   have b3 : (t.sort == 4) = false := by simp [h1]
   have b4 : (t.sort == 6) = false := by simp [h1]
   have b5 : decide (t.sort < 4) = true := by simp [h1]
   have b6 : decide ((1 : Int) ≤ t.sort ∧ t.sort ≤ 6) = true := by simp [h1]
   have HSH := hH hsh; have HS := hH h1
   clear hsh h1
   go_enter Tryz.func45, Tryz.ntmps45
   go_wp2_with (first
    | (go_at_call 70; refine (l6In_any _ _ _ _).mono ?_; rintro e w' ⟨rfl, rfl⟩)
    | (go_at_call 71; refine (uh HC _).mono ?_; rintro e w' ⟨rfl, hb'⟩))
   all_goals first
    | (go_ret; exact ⟨rfl, uh HBX _⟩)
    | (go_ret; exact ⟨rfl, (kbox1 hb').2.2⟩)
    | (exfalso
       have h1 := uh HSH
       have h2 := uh HS
       simp [shB, h2] at h1
       simp_all
       done)
    | (exfalso
       have h1 := uh HSH
       have h2 := uh HS
       simp [shB, h2] at h1
       simp_all
       omega)
 by_cases h2 : t.sort = 2
 · have b1 : (t.sort == 5) = false := by simp [h2]
   have b2 : (t.sort != 5) = true := by simp [h2]
   have b3 : (t.sort == 4) = false := by simp [h2]
   have b4 : (t.sort == 6) = false := by simp [h2]
   have b5 : decide (t.sort < 4) = true := by simp [h2]
   have b6 : decide ((1 : Int) ≤ t.sort ∧ t.sort ≤ 6) = true := by simp [h2]
   have HSH := hH hsh; have HS := hH h2
   clear hsh h1 h2
   go_enter Tryz.func45, Tryz.ntmps45
   go_wp2_with (first
    | (go_at_call 70; refine (l6In_any _ _ _ _).mono ?_; rintro e w' ⟨rfl, rfl⟩)
    | (go_at_call 71; refine (uh HC _).mono ?_; rintro e w' ⟨rfl, hb'⟩))
   all_goals first
    | (go_ret; exact ⟨rfl, uh HBX _⟩)
    | (go_ret; exact ⟨rfl, (kbox1 hb').2.2⟩)
    | (exfalso
       have h1 := uh HSH
       have h2 := uh HS
       simp [shB, h2] at h1
       simp_all
       done)
    | (exfalso
       have h1 := uh HSH
       have h2 := uh HS
       simp [shB, h2] at h1
       simp_all
       omega)
 by_cases h3 : t.sort = 3
 · have b1 : (t.sort == 5) = false := by simp [h3]
   have b2 : (t.sort != 5) = true := by simp [h3]
   have b3 : (t.sort == 4) = false := by simp [h3]
   have b4 : (t.sort == 6) = false := by simp [h3]
   have b5 : decide (t.sort < 4) = true := by simp [h3]
   have b6 : decide ((1 : Int) ≤ t.sort ∧ t.sort ≤ 6) = true := by simp [h3]
   have HSH := hH hsh; have HS := hH h3
   clear hsh h1 h2 h3
   go_enter Tryz.func45, Tryz.ntmps45
   go_wp2_with (first
    | (go_at_call 70; refine (l6In_any _ _ _ _).mono ?_; rintro e w' ⟨rfl, rfl⟩)
    | (go_at_call 71; refine (uh HC _).mono ?_; rintro e w' ⟨rfl, hb'⟩))
   all_goals first
    | (go_ret; exact ⟨rfl, uh HBX _⟩)
    | (go_ret; exact ⟨rfl, (kbox1 hb').2.2⟩)
    | (exfalso
       have h1 := uh HSH
       have h2 := uh HS
       simp [shB, h2] at h1
       simp_all
       done)
    | (exfalso
       have h1 := uh HSH
       have h2 := uh HS
       simp [shB, h2] at h1
       simp_all
       omega)
 by_cases h4 : t.sort = 4
 · have b1 : (t.sort == 5) = false := by simp [h4]
   have b2 : (t.sort != 5) = true := by simp [h4]
   have b3 : (t.sort == 4) = true := by simp [h4]
   have b4 : (t.sort == 6) = false := by simp [h4]
   have b5 : decide (t.sort < 4) = false := by simp [h4]
   have b6 : decide ((1 : Int) ≤ t.sort ∧ t.sort ≤ 6) = true := by simp [h4]
   have HSH := hH hsh; have HS := hH h4
   clear hsh h1 h2 h3 h4
   go_enter Tryz.func45, Tryz.ntmps45
   go_wp2_with (first
    | (go_at_call 70; refine (l6In_any _ _ _ _).mono ?_; rintro e w' ⟨rfl, rfl⟩)
    | (go_at_call 71; refine (uh HC _).mono ?_; rintro e w' ⟨rfl, hb'⟩))
   all_goals first
    | (go_ret; exact ⟨rfl, uh HBX _⟩)
    | (go_ret; exact ⟨rfl, (kbox1 hb').2.2⟩)
    | (exfalso
       have h1 := uh HSH
       have h2 := uh HS
       simp [shB, h2] at h1
       simp_all
       done)
    | (exfalso
       have h1 := uh HSH
       have h2 := uh HS
       simp [shB, h2] at h1
       simp_all
       omega)
 by_cases h5 : t.sort = 5
 · have b1 : (t.sort == 5) = true := by simp [h5]
   have b2 : (t.sort != 5) = false := by simp [h5]
   have b3 : (t.sort == 4) = false := by simp [h5]
   have b4 : (t.sort == 6) = false := by simp [h5]
   have b5 : decide (t.sort < 4) = false := by simp [h5]
   have b6 : decide ((1 : Int) ≤ t.sort ∧ t.sort ≤ 6) = true := by simp [h5]
   have HSH := hH hsh; have HS := hH h5
   clear hsh h1 h2 h3 h4 h5
   go_enter Tryz.func45, Tryz.ntmps45
   go_wp2_with (first
    | (go_at_call 70; refine (l6In_any _ _ _ _).mono ?_; rintro e w' ⟨rfl, rfl⟩)
    | (go_at_call 71; refine (uh HC _).mono ?_; rintro e w' ⟨rfl, hb'⟩))
   all_goals first
    | (go_ret; exact ⟨rfl, uh HBX _⟩)
    | (go_ret; exact ⟨rfl, (kbox1 hb').2.2⟩)
    | (exfalso
       have h1 := uh HSH
       have h2 := uh HS
       simp [shB, h2] at h1
       simp_all
       done)
    | (exfalso
       have h1 := uh HSH
       have h2 := uh HS
       simp [shB, h2] at h1
       simp_all
       omega)
 by_cases h6 : t.sort = 6
 · have b1 : (t.sort == 5) = false := by simp [h6]
   have b2 : (t.sort != 5) = true := by simp [h6]
   have b3 : (t.sort == 4) = false := by simp [h6]
   have b4 : (t.sort == 6) = true := by simp [h6]
   have b5 : decide (t.sort < 4) = false := by simp [h6]
   have b6 : decide ((1 : Int) ≤ t.sort ∧ t.sort ≤ 6) = true := by simp [h6]
   have HSH := hH hsh; have HS := hH h6
   clear hsh h1 h2 h3 h4 h5 h6
   go_enter Tryz.func45, Tryz.ntmps45
   go_wp2_with (first
    | (go_at_call 70; refine (l6In_any _ _ _ _).mono ?_; rintro e w' ⟨rfl, rfl⟩)
    | (go_at_call 71; refine (uh HC _).mono ?_; rintro e w' ⟨rfl, hb'⟩))
   all_goals first
    | (go_ret; exact ⟨rfl, uh HBX _⟩)
    | (go_ret; exact ⟨rfl, (kbox1 hb').2.2⟩)
    | (exfalso
       have h1 := uh HSH
       have h2 := uh HS
       simp [shB, h2] at h1
       simp_all
       done)
    | (exfalso
       have h1 := uh HSH
       have h2 := uh HS
       simp [shB, h2] at h1
       simp_all
       omega)
 have b6 : decide ((1 : Int) ≤ t.sort ∧ t.sort ≤ 6) = false := by simp; omega
 clear h1 h2 h3 h4 h5 h6
 go_enter Tryz.func45, Tryz.ntmps45
 go_wp2_with (go_at_call 70; refine (l6In_any _ _ _ _).mono ?_; rintro e w' ⟨rfl, rfl⟩)
 go_ret
 exact ⟨rfl, uh HBX _⟩
theorem l2Parts_leaf (n : Nat) (IH : KPartsSaid n) (t : Kd) (hn : ksz t < n + 1) (P : Nat → Prop) (c : C3) (d : Int) (w : World) (hP : ∀ b, P b → b < w.heap.size) (hrep : KRep P w t c) (hd0 : 1 ≤ d) (hd1 : d ≤ 6) (hsh : shB t = true) (hs : t.sort = 1 ∨ t.sort = 2 ∨ t.sort = 3) :
 Calls Tryz.prog 45 #[.agg #[c.c0, c.c1, c.c2], .int .i64 d] w fun e w' => e = .returned (.int .i64 (qK t.kids d 1)) ∧ Below w.heap.size w w' := by
 obtain ⟨c0, c1, c2⟩ := c
 obtain ⟨e0, -, hns, a, cap, e2, hlen, hks⟩ := hrep.open
 simp only at e0 e2 hns
 have HN := hH hns
 obtain ⟨a3, cap3, e1, hl3, -⟩ := hns
 subst e0 e1 e2
 have HP := hH hP; have HI := hH IH; have HK := hH hks
 clear hrep hP IH hks
 have hbx : ∀ o, Below w.heap.size w (w.alloc o) := fun o => (Below.refl _ _).alloc (Nat.le_refl _) o
 have HBX := hH hbx; clear hbx
 have b1 : (t.sort == 5) = false := by simp; omega
 have b2 : (t.sort != 5) = true := by simp; omega
 have b3 : (t.sort == 4) = false := by simp; omega
 have b4 : (t.sort == 6) = false := by simp; omega
 have b5 : decide (t.sort < 4) = true := by simp; omega
 have b6 : decide ((1 : Int) ≤ t.sort ∧ t.sort ≤ 6) = true := by simp; omega
 have hkn : t.kids.length = 0 ∧ t.names.length = 0 := by
  rw [shB, if_pos hs] at hsh
  exact of_decide_eq_true hsh
 obtain ⟨hkl, hnl⟩ := hkn
 have b7 : decide ((0 : Int) < (t.names.length : Int)) = false := decide_eq_false (by omega)
 have b8 : decide ((0 : Int) < (t.kids.length : Int)) = false := decide_eq_false (by omega)
 have b9 : decide (0 < t.names.length) = false := decide_eq_false (by omega)
 have b10 : decide (0 < t.kids.length) = false := decide_eq_false (by omega)
 clear hs hsh hkl hnl
 go_enter Tryz.func45, Tryz.ntmps45
 go_wp2_with (first
  | (go_at_call 70; refine (l6In_any _ _ _ _).mono ?_; rintro e w' ⟨rfl, rfl⟩))
 generalize hks : t.kids = ks at *
 have HKS := hH hks; clear hks
 go_loopw [6, 7] (fun m i wr => ∃ (k : Nat) (q : Int), k ≤ ks.length ∧ i = .int .i64 k ∧ m = .int .i64 q ∧ 1 ≤ q ∧ q ≤ 40 ∧ Hid (qK (ks.drop k) d q = qK ks d 1) ∧ wr.cell? ⟨w.heap.size, 2, none⟩ = some (.slice a ks.length cap) ∧ w.heap.size < wr.heap.size ∧ Below w.heap.size w wr) (fun _ i _ => ks.length - (intOf i).toNat)
 case atStart => exact ⟨0, 1, Nat.zero_le _, rfl, rfl, by omega, by omega, rfl, (row3_alloc w _ _ _ _).cell (i := 2) (by omega), (row3_alloc w _ _ _ _).lt, uh HBX _⟩
 case round =>
  obtain ⟨k, q, hk, rfl, rfl, hq0, hq1, HQ, hbox, hbs, hb⟩ := hrel
  by_cases hlt : k < ks.length
  · obtain ⟨b, o, c, rfl, hpb, hcell, hrep⟩ := uh HK k hlt
    have hcell' := hcell.carry (hb.block b (uh HP b hpb))
    obtain ⟨c0, c1, c2⟩ := c
    obtain ⟨e0, e1, e2⟩ := hcell'
    simp only at e0 e1 e2
    have hmem : ks[k] ∈ t.kids := by rw [uh HKS]; exact List.getElem_mem hlt
    have hsm : ksz ks[k] < n := by have := ksz_kid hmem; omega
    have hcall := uh HI ks[k] hsm P ⟨c0, c1, c2⟩ (d + 1) wr (fun b hb' => Nat.lt_of_lt_of_le (uh HP b hb') hb.size) (KRep.carry (fun b hb' => hb.block b (uh HP b hb')) (fun _ h => h) _ _ hrep) (by omega) (by omega)
    have hst := qK_step hlt d q
    have hbd := qT_bd ks[k] (d + 1)
    generalize qT ks[k] (d + 1) = r at hcall hst hbd
    have HCALL := hH hcall; have HST := hH hst
    clear hrep hcell hpb hmem hcall hst
    by_cases hbad : r < 0 ∨ 40 < q + r
    · have hfin : qK ks d 1 = -1 := by rw [← HQ.out, uh HST, if_pos hbad]
      have HFIN := hH hfin; clear hfin
      rcases hbad with hbad | hbad
      · go_wp2_with (go_at_call 45; refine (uh HCALL).mono ?_; rintro e w2 ⟨rfl, hb2⟩)
        go_ret
        exact ⟨by rw [uh HKS, uh HFIN]; rfl, hb.trans (hb2.mono hb.size)⟩
      · have hr0 : 0 ≤ r := by omega
        go_wp2_with (go_at_call 45; refine (uh HCALL).mono ?_; rintro e w2 ⟨rfl, hb2⟩)
        go_ret
        exact ⟨by rw [uh HKS, uh HFIN]; rfl, hb.trans (hb2.mono hb.size)⟩
    · have hr0 : 0 ≤ r := by omega
      have hr1 : q + r ≤ 40 := by omega
      have hfin : qK (ks.drop (k + 1)) d (q + r) = qK ks d 1 := by rw [← HQ.out, uh HST, if_neg hbad]
      have HFIN := hH hfin
      clear hfin hbad
      go_wp2_with (go_at_call 45; refine (uh HCALL).mono ?_; rintro e w2 ⟨rfl, hb2⟩)
      go_roundw
      case rel => exact ⟨k + 1, _, by omega, by go_num, rfl, by omega, by omega, uh HFIN, by rw [hb2.cell hbs]; exact hbox, Nat.lt_of_lt_of_le hbs hb2.size, hb.trans (hb2.mono hb.size)⟩
      case measure => simp [intOf]; omega
  · go_wp2_with fail
    go_ret
    refine ⟨?_, hb⟩
    rw [uh HKS, ← HQ.out, List.drop_of_length_le (by omega), qK]
    rfl
theorem l2Parts_list (n : Nat) (IH : KPartsSaid n) (t : Kd) (hn : ksz t < n + 1) (P : Nat → Prop) (c : C3) (d : Int) (w : World) (hP : ∀ b, P b → b < w.heap.size) (hrep : KRep P w t c) (hd0 : 1 ≤ d) (hd1 : d ≤ 6) (hsh : shB t = true) (hs : t.sort = 4) :
 Calls Tryz.prog 45 #[.agg #[c.c0, c.c1, c.c2], .int .i64 d] w fun e w' => e = .returned (.int .i64 (qK t.kids d 1)) ∧ Below w.heap.size w w' := by
 obtain ⟨c0, c1, c2⟩ := c
 obtain ⟨e0, -, hns, a, cap, e2, hlen, hks⟩ := hrep.open
 simp only at e0 e2 hns
 have HN := hH hns
 obtain ⟨a3, cap3, e1, hl3, -⟩ := hns
 subst e0 e1 e2
 have HP := hH hP; have HI := hH IH; have HK := hH hks
 clear hrep hP IH hks
 have hbx : ∀ o, Below w.heap.size w (w.alloc o) := fun o => (Below.refl _ _).alloc (Nat.le_refl _) o
 have HBX := hH hbx; clear hbx
 have b1 : (t.sort == 5) = false := by simp [hs]
 have b2 : (t.sort != 5) = true := by simp [hs]
 have b3 : (t.sort == 4) = true := by simp [hs]
 have b4 : (t.sort == 6) = false := by simp [hs]
 have b5 : decide (t.sort < 4) = false := by simp [hs]
 have b6 : decide ((1 : Int) ≤ t.sort ∧ t.sort ≤ 6) = true := by simp [hs]
 have hkn : t.kids.length = 1 ∧ t.names.length = 0 := by
  rw [shB, if_neg (by omega), if_pos (by omega)] at hsh
  exact of_decide_eq_true hsh
 obtain ⟨hkl, hnl⟩ := hkn
 have b7 : decide ((0 : Int) < (t.names.length : Int)) = false := decide_eq_false (by omega)
 have b9 : decide (0 < t.names.length) = false := decide_eq_false (by omega)
 have b8 : ((t.kids.length : Int) != 1) = false := by simp; omega
 clear hs hsh hkl hnl
 go_enter Tryz.func45, Tryz.ntmps45
 go_wp2_with (first
  | (go_at_call 70; refine (l6In_any _ _ _ _).mono ?_; rintro e w' ⟨rfl, rfl⟩))
 generalize hks : t.kids = ks at *
 have HKS := hH hks; clear hks
 go_loopw [6, 7] (fun m i wr => ∃ (k : Nat) (q : Int), k ≤ ks.length ∧ i = .int .i64 k ∧ m = .int .i64 q ∧ 1 ≤ q ∧ q ≤ 40 ∧ Hid (qK (ks.drop k) d q = qK ks d 1) ∧ wr.cell? ⟨w.heap.size, 2, none⟩ = some (.slice a ks.length cap) ∧ w.heap.size < wr.heap.size ∧ Below w.heap.size w wr) (fun _ i _ => ks.length - (intOf i).toNat)
 case atStart => exact ⟨0, 1, Nat.zero_le _, rfl, rfl, by omega, by omega, rfl, (row3_alloc w _ _ _ _).cell (i := 2) (by omega), (row3_alloc w _ _ _ _).lt, uh HBX _⟩
 case round =>
  obtain ⟨k, q, hk, rfl, rfl, hq0, hq1, HQ, hbox, hbs, hb⟩ := hrel
  by_cases hlt : k < ks.length
  · obtain ⟨b, o, c, rfl, hpb, hcell, hrep⟩ := uh HK k hlt
    have hcell' := hcell.carry (hb.block b (uh HP b hpb))
    obtain ⟨c0, c1, c2⟩ := c
    obtain ⟨e0, e1, e2⟩ := hcell'
    simp only at e0 e1 e2
    have hmem : ks[k] ∈ t.kids := by rw [uh HKS]; exact List.getElem_mem hlt
    have hsm : ksz ks[k] < n := by have := ksz_kid hmem; omega
    have hcall := uh HI ks[k] hsm P ⟨c0, c1, c2⟩ (d + 1) wr (fun b hb' => Nat.lt_of_lt_of_le (uh HP b hb') hb.size) (KRep.carry (fun b hb' => hb.block b (uh HP b hb')) (fun _ h => h) _ _ hrep) (by omega) (by omega)
    have hst := qK_step hlt d q
    have hbd := qT_bd ks[k] (d + 1)
    generalize qT ks[k] (d + 1) = r at hcall hst hbd
    have HCALL := hH hcall; have HST := hH hst
    clear hrep hcell hpb hmem hcall hst
    by_cases hbad : r < 0 ∨ 40 < q + r
    · have hfin : qK ks d 1 = -1 := by rw [← HQ.out, uh HST, if_pos hbad]
      have HFIN := hH hfin; clear hfin
      rcases hbad with hbad | hbad
      · go_wp2_with (go_at_call 45; refine (uh HCALL).mono ?_; rintro e w2 ⟨rfl, hb2⟩)
        go_ret
        exact ⟨by rw [uh HKS, uh HFIN]; rfl, hb.trans (hb2.mono hb.size)⟩
      · have hr0 : 0 ≤ r := by omega
        go_wp2_with (go_at_call 45; refine (uh HCALL).mono ?_; rintro e w2 ⟨rfl, hb2⟩)
        go_ret
        exact ⟨by rw [uh HKS, uh HFIN]; rfl, hb.trans (hb2.mono hb.size)⟩
    · have hr0 : 0 ≤ r := by omega
      have hr1 : q + r ≤ 40 := by omega
      have hfin : qK (ks.drop (k + 1)) d (q + r) = qK ks d 1 := by rw [← HQ.out, uh HST, if_neg hbad]
      have HFIN := hH hfin
      clear hfin hbad
      go_wp2_with (go_at_call 45; refine (uh HCALL).mono ?_; rintro e w2 ⟨rfl, hb2⟩)
      go_roundw
      case rel => exact ⟨k + 1, _, by omega, by go_num, rfl, by omega, by omega, uh HFIN, by rw [hb2.cell hbs]; exact hbox, Nat.lt_of_lt_of_le hbs hb2.size, hb.trans (hb2.mono hb.size)⟩
      case measure => simp [intOf]; omega
  · go_wp2_with fail
    go_ret
    refine ⟨?_, hb⟩
    rw [uh HKS, ← HQ.out, List.drop_of_length_le (by omega), qK]
    rfl
theorem l2Parts_maybe (n : Nat) (IH : KPartsSaid n) (t : Kd) (hn : ksz t < n + 1) (P : Nat → Prop) (c : C3) (d : Int) (w : World) (hP : ∀ b, P b → b < w.heap.size) (hrep : KRep P w t c) (hd0 : 1 ≤ d) (hd1 : d ≤ 6) (hsh : shB t = true) (hs : t.sort = 6) :
 Calls Tryz.prog 45 #[.agg #[c.c0, c.c1, c.c2], .int .i64 d] w fun e w' => e = .returned (.int .i64 (qK t.kids d 1)) ∧ Below w.heap.size w w' := by
 obtain ⟨c0, c1, c2⟩ := c
 obtain ⟨e0, -, hns, a, cap, e2, hlen, hks⟩ := hrep.open
 simp only at e0 e2 hns
 have HN := hH hns
 obtain ⟨a3, cap3, e1, hl3, -⟩ := hns
 subst e0 e1 e2
 have HP := hH hP; have HI := hH IH; have HK := hH hks
 clear hrep hP IH hks
 have hbx : ∀ o, Below w.heap.size w (w.alloc o) := fun o => (Below.refl _ _).alloc (Nat.le_refl _) o
 have HBX := hH hbx; clear hbx
 have b1 : (t.sort == 5) = false := by simp [hs]
 have b2 : (t.sort != 5) = true := by simp [hs]
 have b3 : (t.sort == 4) = false := by simp [hs]
 have b4 : (t.sort == 6) = true := by simp [hs]
 have b5 : decide (t.sort < 4) = false := by simp [hs]
 have b6 : decide ((1 : Int) ≤ t.sort ∧ t.sort ≤ 6) = true := by simp [hs]
 have hkn : t.kids.length = 1 ∧ t.names.length = 0 := by
  rw [shB, if_neg (by omega), if_pos (by omega)] at hsh
  exact of_decide_eq_true hsh
 obtain ⟨hkl, hnl⟩ := hkn
 have b7 : decide ((0 : Int) < (t.names.length : Int)) = false := decide_eq_false (by omega)
 have b9 : decide (0 < t.names.length) = false := decide_eq_false (by omega)
 have b8 : ((t.kids.length : Int) != 1) = false := by simp; omega
 clear hs hsh hkl hnl
 go_enter Tryz.func45, Tryz.ntmps45
 go_wp2_with (first
  | (go_at_call 70; refine (l6In_any _ _ _ _).mono ?_; rintro e w' ⟨rfl, rfl⟩))
 generalize hks : t.kids = ks at *
 have HKS := hH hks; clear hks
 go_loopw [6, 7] (fun m i wr => ∃ (k : Nat) (q : Int), k ≤ ks.length ∧ i = .int .i64 k ∧ m = .int .i64 q ∧ 1 ≤ q ∧ q ≤ 40 ∧ Hid (qK (ks.drop k) d q = qK ks d 1) ∧ wr.cell? ⟨w.heap.size, 2, none⟩ = some (.slice a ks.length cap) ∧ w.heap.size < wr.heap.size ∧ Below w.heap.size w wr) (fun _ i _ => ks.length - (intOf i).toNat)
 case atStart => exact ⟨0, 1, Nat.zero_le _, rfl, rfl, by omega, by omega, rfl, (row3_alloc w _ _ _ _).cell (i := 2) (by omega), (row3_alloc w _ _ _ _).lt, uh HBX _⟩
 case round =>
  obtain ⟨k, q, hk, rfl, rfl, hq0, hq1, HQ, hbox, hbs, hb⟩ := hrel
  by_cases hlt : k < ks.length
  · obtain ⟨b, o, c, rfl, hpb, hcell, hrep⟩ := uh HK k hlt
    have hcell' := hcell.carry (hb.block b (uh HP b hpb))
    obtain ⟨c0, c1, c2⟩ := c
    obtain ⟨e0, e1, e2⟩ := hcell'
    simp only at e0 e1 e2
    have hmem : ks[k] ∈ t.kids := by rw [uh HKS]; exact List.getElem_mem hlt
    have hsm : ksz ks[k] < n := by have := ksz_kid hmem; omega
    have hcall := uh HI ks[k] hsm P ⟨c0, c1, c2⟩ (d + 1) wr (fun b hb' => Nat.lt_of_lt_of_le (uh HP b hb') hb.size) (KRep.carry (fun b hb' => hb.block b (uh HP b hb')) (fun _ h => h) _ _ hrep) (by omega) (by omega)
    have hst := qK_step hlt d q
    have hbd := qT_bd ks[k] (d + 1)
    generalize qT ks[k] (d + 1) = r at hcall hst hbd
    have HCALL := hH hcall; have HST := hH hst
    clear hrep hcell hpb hmem hcall hst
    by_cases hbad : r < 0 ∨ 40 < q + r
    · have hfin : qK ks d 1 = -1 := by rw [← HQ.out, uh HST, if_pos hbad]
      have HFIN := hH hfin; clear hfin
      rcases hbad with hbad | hbad
      · go_wp2_with (go_at_call 45; refine (uh HCALL).mono ?_; rintro e w2 ⟨rfl, hb2⟩)
        go_ret
        exact ⟨by rw [uh HKS, uh HFIN]; rfl, hb.trans (hb2.mono hb.size)⟩
      · have hr0 : 0 ≤ r := by omega
        go_wp2_with (go_at_call 45; refine (uh HCALL).mono ?_; rintro e w2 ⟨rfl, hb2⟩)
        go_ret
        exact ⟨by rw [uh HKS, uh HFIN]; rfl, hb.trans (hb2.mono hb.size)⟩
    · have hr0 : 0 ≤ r := by omega
      have hr1 : q + r ≤ 40 := by omega
      have hfin : qK (ks.drop (k + 1)) d (q + r) = qK ks d 1 := by rw [← HQ.out, uh HST, if_neg hbad]
      have HFIN := hH hfin
      clear hfin hbad
      go_wp2_with (go_at_call 45; refine (uh HCALL).mono ?_; rintro e w2 ⟨rfl, hb2⟩)
      go_roundw
      case rel => exact ⟨k + 1, _, by omega, by go_num, rfl, by omega, by omega, uh HFIN, by rw [hb2.cell hbs]; exact hbox, Nat.lt_of_lt_of_le hbs hb2.size, hb.trans (hb2.mono hb.size)⟩
      case measure => simp [intOf]; omega
  · go_wp2_with fail
    go_ret
    refine ⟨?_, hb⟩
    rw [uh HKS, ← HQ.out, List.drop_of_length_le (by omega), qK]
    rfl
theorem l2Parts_form (n : Nat) (IH : KPartsSaid n) (t : Kd) (hn : ksz t < n + 1) (P : Nat → Prop) (c : C3) (d : Int) (w : World) (hP : ∀ b, P b → b < w.heap.size) (hrep : KRep P w t c) (hd0 : 1 ≤ d) (hd1 : d ≤ 6) (hsh : shB t = true) (hs : t.sort = 5) :
 Calls Tryz.prog 45 #[.agg #[c.c0, c.c1, c.c2], .int .i64 d] w fun e w' => e = .returned (.int .i64 (qK t.kids d 1)) ∧ Below w.heap.size w w' := by
 obtain ⟨c0, c1, c2⟩ := c
 obtain ⟨e0, -, hns, a, cap, e2, hlen, hks⟩ := hrep.open
 simp only at e0 e2 hns
 have HN := hH hns
 obtain ⟨a3, cap3, e1, hl3, -⟩ := hns
 subst e0 e1 e2
 have HP := hH hP; have HI := hH IH; have HK := hH hks
 clear hrep hP IH hks
 have hbx : ∀ o, Below w.heap.size w (w.alloc o) := fun o => (Below.refl _ _).alloc (Nat.le_refl _) o
 have HBX := hH hbx; clear hbx
 have b1 : (t.sort == 5) = true := by simp [hs]
 have b2 : (t.sort != 5) = false := by simp [hs]
 have b3 : (t.sort == 4) = false := by simp [hs]
 have b4 : (t.sort == 6) = false := by simp [hs]
 have b5 : decide (t.sort < 4) = false := by simp [hs]
 have b6 : decide ((1 : Int) ≤ t.sort ∧ t.sort ≤ 6) = true := by simp [hs]
 have hkn : t.kids.length = t.names.length ∧ riseB t.names = true := by
  simpa [shB, hs] using hsh
 obtain ⟨hkl, hri⟩ := hkn
 have b8 : ((t.names.length : Int) != (t.kids.length : Int)) = false := by simp; omega
 have hcall : ∀ o, Calls Tryz.prog 71 #[.slice a3 t.names.length cap3] (w.alloc o) fun e w' => e = .returned (.bool true) ∧ Below (w.alloc o).heap.size (w.alloc o) w' := fun o => by
  have := l1Rise_any _ t.names (w.alloc o) (P := P) (fun b hb => Nat.lt_of_lt_of_le (uh HP b hb) (uh HBX o).size) ((uh HN).carry (fun b hb => (uh HBX o).block b (uh HP b hb)) (fun _ h => h))
  rw [hri] at this
  exact this
 have HC := hH hcall; clear hcall
 clear hs hsh hkl hri
 go_enter Tryz.func45, Tryz.ntmps45
 go_wp2_with (first
  | (go_at_call 70; refine (l6In_any _ _ _ _).mono ?_; rintro e w' ⟨rfl, rfl⟩)
  | (go_at_call 71
     refine (uh HC _).mono ?_
     rintro e w' ⟨rfl, hb'⟩
     obtain ⟨q0, -, hb0⟩ := kbox1 hb'
     obtain ⟨k0, k1, k2⟩ := cs3 q0 (by omega)
     simp only [row3] at k0 k1 k2
     have Q0 := hH q0; have HB0 := hH hb0
     clear q0 hb0 hb'))
 generalize hks : t.kids = ks at *
 have HKS := hH hks; clear hks
 go_loopw [6, 7] (fun m i wr => ∃ (k : Nat) (q : Int), k ≤ ks.length ∧ i = .int .i64 k ∧ m = .int .i64 q ∧ 1 ≤ q ∧ q ≤ 40 ∧ Hid (qK (ks.drop k) d q = qK ks d 1) ∧ wr.cell? ⟨w.heap.size, 2, none⟩ = some (.slice a ks.length cap) ∧ w.heap.size < wr.heap.size ∧ Below w.heap.size w wr) (fun _ i _ => ks.length - (intOf i).toNat)
 case atStart => exact ⟨0, 1, Nat.zero_le _, rfl, rfl, by omega, by omega, rfl, k2, (uh Q0).lt, uh HB0⟩
 case round =>
  obtain ⟨k, q, hk, rfl, rfl, hq0, hq1, HQ, hbox, hbs, hb⟩ := hrel
  by_cases hlt : k < ks.length
  · obtain ⟨b, o, c, rfl, hpb, hcell, hrep⟩ := uh HK k hlt
    have hcell' := hcell.carry (hb.block b (uh HP b hpb))
    obtain ⟨c0, c1, c2⟩ := c
    obtain ⟨e0, e1, e2⟩ := hcell'
    simp only at e0 e1 e2
    have hmem : ks[k] ∈ t.kids := by rw [uh HKS]; exact List.getElem_mem hlt
    have hsm : ksz ks[k] < n := by have := ksz_kid hmem; omega
    have hcall := uh HI ks[k] hsm P ⟨c0, c1, c2⟩ (d + 1) wr (fun b hb' => Nat.lt_of_lt_of_le (uh HP b hb') hb.size) (KRep.carry (fun b hb' => hb.block b (uh HP b hb')) (fun _ h => h) _ _ hrep) (by omega) (by omega)
    have hst := qK_step hlt d q
    have hbd := qT_bd ks[k] (d + 1)
    generalize qT ks[k] (d + 1) = r at hcall hst hbd
    have HCALL := hH hcall; have HST := hH hst
    clear hrep hcell hpb hmem hcall hst
    by_cases hbad : r < 0 ∨ 40 < q + r
    · have hfin : qK ks d 1 = -1 := by rw [← HQ.out, uh HST, if_pos hbad]
      have HFIN := hH hfin; clear hfin
      rcases hbad with hbad | hbad
      · go_wp2_with (go_at_call 45; refine (uh HCALL).mono ?_; rintro e w2 ⟨rfl, hb2⟩)
        go_ret
        exact ⟨by rw [uh HKS, uh HFIN]; rfl, hb.trans (hb2.mono hb.size)⟩
      · have hr0 : 0 ≤ r := by omega
        go_wp2_with (go_at_call 45; refine (uh HCALL).mono ?_; rintro e w2 ⟨rfl, hb2⟩)
        go_ret
        exact ⟨by rw [uh HKS, uh HFIN]; rfl, hb.trans (hb2.mono hb.size)⟩
    · have hr0 : 0 ≤ r := by omega
      have hr1 : q + r ≤ 40 := by omega
      have hfin : qK (ks.drop (k + 1)) d (q + r) = qK ks d 1 := by rw [← HQ.out, uh HST, if_neg hbad]
      have HFIN := hH hfin
      clear hfin hbad
      go_wp2_with (go_at_call 45; refine (uh HCALL).mono ?_; rintro e w2 ⟨rfl, hb2⟩)
      go_roundw
      case rel => exact ⟨k + 1, _, by omega, by go_num, rfl, by omega, by omega, uh HFIN, by rw [hb2.cell hbs]; exact hbox, Nat.lt_of_lt_of_le hbs hb2.size, hb.trans (hb2.mono hb.size)⟩
      case measure => simp [intOf]; omega
  · go_wp2_with fail
    go_ret
    refine ⟨?_, hb⟩
    rw [uh HKS, ← HQ.out, List.drop_of_length_le (by omega), qK]
    rfl
theorem l2Parts_step (n : Nat) (IH : KPartsSaid n) : KPartsSaid (n + 1) := by
 intro t hn P c d w hP hrep hd0 hd1
 rw [qT_eq]
 by_cases hno : 6 < d ∨ shB t = false
 · rw [if_pos hno]; exact l2Parts_no t P c d w hP hrep hno
 · rw [if_neg hno]
   have hd6 : d ≤ 6 := by omega
   have hsh : shB t = true := by
    cases h : shB t
    · exact absurd (Or.inr h) hno
    · rfl
   by_cases h4 : t.sort = 4
   · exact l2Parts_list n IH t hn P c d w hP hrep hd0 hd6 hsh h4
   by_cases h6 : t.sort = 6
   · exact l2Parts_maybe n IH t hn P c d w hP hrep hd0 hd6 hsh h6
   by_cases h5 : t.sort = 5
   · exact l2Parts_form n IH t hn P c d w hP hrep hd0 hd6 hsh h5
   by_cases hl : t.sort = 1 ∨ t.sort = 2 ∨ t.sort = 3
   · exact l2Parts_leaf n IH t hn P c d w hP hrep hd0 hd6 hsh hl
   · rw [shB, if_neg hl, if_neg (by omega), if_neg h5] at hsh
     cases hsh
theorem l2Parts_all : ∀ n, KPartsSaid n
 | 0 => fun t h => by omega
 | n + 1 => l2Parts_step n (l2Parts_all n)
theorem specKindOk_any (t : Kd) (P : Nat → Prop) (c : C3) (w : World) (hP : ∀ b, P b → b < w.heap.size) (hrep : KRep P w t c) :
 Calls Tryz.prog 18 #[.agg #[c.c0, c.c1, c.c2]] w fun e w' => e = .returned (.bool (decide (0 < qT t 1))) ∧ Below w.heap.size w w' := by
 have hbx : ∀ o, Below w.heap.size w (w.alloc o) := fun o => (Below.refl _ _).alloc (Nat.le_refl _) o
 have hcall : ∀ o, Calls Tryz.prog 45 #[.agg #[c.c0, c.c1, c.c2], .int .i64 1] (w.alloc o) fun e w' => e = .returned (.int .i64 (qT t 1)) ∧ Below w.heap.size w w' := fun o =>
  (l2Parts_all (ksz t + 1) t (by omega) P c 1 (w.alloc o) (fun b hb => Nat.lt_of_lt_of_le (hP b hb) (hbx o).size) (KRep.carry (fun b hb => (hbx o).block b (hP b hb)) (fun _ h => h) _ _ hrep) (by omega) (by omega)).mono
    fun e w' ⟨h1, h2⟩ => ⟨h1, (hbx o).trans (h2.mono (hbx o).size)⟩
 generalize qT t 1 = r at *
 have HCALL := hH hcall
 clear hbx hcall hP hrep
 go_enter Tryz.func18, Tryz.ntmps18
 go_wp2_with (go_at_call 45; refine (uh HCALL _).mono ?_; rintro e w2 ⟨rfl, hb2⟩)
 go_ret
 exact ⟨rfl, hb2⟩
end Go.Proofs.YtccnehcpmkgbhaaGreatDoor
