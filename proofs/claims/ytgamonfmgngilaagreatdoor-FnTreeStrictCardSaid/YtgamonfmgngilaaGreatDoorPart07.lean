/- The text of a schema, as a plain function on data, and its length. No program, no conditions. -/
import Derived.Test.YtgamonfmgngilaaGreatDoorPart04
import Derived.Test.YtgamonfmgngilaaGreatDoorPart06
namespace Go.Proofs.YtgamonfmgngilaaGreatDoor
open Go Go.RowKit

/-- What stands ahead of kid i of a form. -/
def kAhead (ns : List ByteArray) (i : Nat) : List UInt8 := (if 0 < i then [44] else []) ++ ((ns.getD i ByteArray.empty).data.toList ++ [58])

mutual
def kxT : Kd → List UInt8
  | .mk s ns ks =>
    if s = 1 then [110, 117, 109]
    else if s = 2 then [116, 101, 120, 116]
    else if s = 3 then [102, 108, 97, 103]
    else if s = 4 then [91] ++ kxM ks ++ [93]
    else if s = 6 then [63] ++ kxM ks
    else [123] ++ kxK ns 0 ks ++ [125]
def kxM : List Kd → List UInt8
  | [] => []
  | t :: _ => kxT t
def kxK (ns : List ByteArray) (i : Nat) : List Kd → List UInt8
  | [] => []
  | t :: r => kAhead ns i ++ kxT t ++ kxK ns (i + 1) r
end

mutual
/-- All of its parts are ok, but for their count and levels. -/
def okD : Kd → Bool
  | .mk s ns ks => shB (.mk s ns ks) && okDs ks
def okDs : List Kd → Bool
  | [] => true
  | t :: r => okD t && okDs r
end

theorem okD_eq (t : Kd) : okD t = (shB t && okDs t.kids) := by
  obtain ⟨s, ns, ks⟩ := t; rw [okD]; rfl
theorem okDs_get {ks : List Kd} (h : okDs ks = true) (i : Nat) (hi : i < ks.length) : okD ks[i] = true := by
  induction ks generalizing i with
  | nil => simp at hi
  | cons t r ih =>
    rw [okDs, Bool.and_eq_true] at h
    cases i with
    | zero => exact h.1
    | succ i => exact ih h.2 i (by simpa using hi)

theorem kxT_eq (t : Kd) : kxT t = if t.sort = 1 then [110, 117, 109]
    else if t.sort = 2 then [116, 101, 120, 116]
    else if t.sort = 3 then [102, 108, 97, 103]
    else if t.sort = 4 then [91] ++ kxM t.kids ++ [93]
    else if t.sort = 6 then [63] ++ kxM t.kids
    else [123] ++ kxK t.names 0 t.kids ++ [125] := by
  obtain ⟨s, ns, ks⟩ := t; rw [kxT]; rfl

theorem kxM_get {ks : List Kd} (h : 0 < ks.length) : kxM ks = kxT ks[0] := by
  cases ks with
  | nil => simp at h
  | cons t r => rw [kxM]; rfl

/-- The text of the first k kids. -/
def kxTo (ns : List ByteArray) (ks : List Kd) (k : Nat) : List UInt8 := kxK ns 0 (ks.take k)

theorem kxK_snoc (ns : List ByteArray) (i : Nat) (l : List Kd) (t : Kd) : kxK ns i (l ++ [t]) = kxK ns i l ++ (kAhead ns (i + l.length) ++ kxT t) := by
  induction l generalizing i with
  | nil => simp [kxK]
  | cons a r ih =>
    simp only [List.cons_append, kxK, List.length_cons]
    rw [ih (i + 1), show i + 1 + r.length = i + (r.length + 1) from by omega]
    simp only [List.append_assoc]

theorem kxTo_succ (ns : List ByteArray) (ks : List Kd) (k : Nat) (hk : k < ks.length) : kxTo ns ks (k + 1) = kxTo ns ks k ++ (kAhead ns k ++ kxT ks[k]) := by
  unfold kxTo
  rw [List.take_succ_eq_append_getElem hk, kxK_snoc]
  simp [Nat.min_eq_left (Nat.le_of_lt hk)]

theorem kxTo_all (ns : List ByteArray) (ks : List Kd) : kxTo ns ks ks.length = kxK ns 0 ks := by
  unfold kxTo; rw [List.take_length]

theorem kxTo_le (ns : List ByteArray) (ks : List Kd) (k : Nat) (hk : k ≤ ks.length) : (kxTo ns ks k).length ≤ (kxK ns 0 ks).length := by
  rw [← kxTo_all]
  have : ∀ m, k + m ≤ ks.length → (kxTo ns ks k).length ≤ (kxTo ns ks (k + m)).length := by
    intro m
    induction m with
    | zero => intro _; exact Nat.le_refl _
    | succ m ih =>
      intro h
      rw [show k + (m + 1) = k + m + 1 from by omega, kxTo_succ _ _ _ (by omega), List.length_append]
      have := ih (by omega); omega
  have := this (ks.length - k) (by omega)
  rwa [show k + (ks.length - k) = ks.length from by omega] at this

theorem shB_cases {t : Kd} (h : shB t = true) : ((t.sort = 1 ∨ t.sort = 2 ∨ t.sort = 3) ∧ t.kids.length = 0 ∧ t.names.length = 0) ∨ ((t.sort = 4 ∨ t.sort = 6) ∧ t.kids.length = 1 ∧ t.names.length = 0) ∨ (t.sort = 5 ∧ t.kids.length = t.names.length ∧ riseB t.names = true) := by
  unfold shB at h
  by_cases h1 : t.sort = 1 ∨ t.sort = 2 ∨ t.sort = 3
  · rw [if_pos h1] at h; exact Or.inl ⟨h1, of_decide_eq_true h⟩
  · rw [if_neg h1] at h
    by_cases h2 : t.sort = 4 ∨ t.sort = 6
    · rw [if_pos h2] at h; exact Or.inr (Or.inl ⟨h2, of_decide_eq_true h⟩)
    · rw [if_neg h2] at h
      by_cases h3 : t.sort = 5
      · rw [if_pos h3, Bool.and_eq_true] at h; exact Or.inr (Or.inr ⟨h3, of_decide_eq_true h.1, h.2⟩)
      · rw [if_neg h3] at h; cases h

mutual
theorem pord_len : ∀ (t : Kd) (l : Int), (pord t l).length = ksz t
  | .mk s ns ks, l => by rw [pord, ksz, List.length_cons, pordK_len ks (l + 1)]; omega
theorem pordK_len : ∀ (ks : List Kd) (l : Int), (pordK ks l).length = klsz ks
  | [], l => by rw [pordK, klsz]; rfl
  | t :: r, l => by rw [pordK, klsz, List.length_append, pord_len t l, pordK_len r l]
end
mutual
theorem okD_pord : ∀ (t : Kd) (l : Int), (pord t l).all gdB = true → okD t = true
  | .mk s ns ks, l => by
    intro h
    rw [pord, List.all_cons, Bool.and_eq_true] at h
    rw [okD, Bool.and_eq_true]
    refine ⟨?_, okDs_pord ks (l + 1) h.2⟩
    have := h.1
    simp only [gdB, Bool.and_eq_true] at this
    exact this.2
theorem okDs_pord : ∀ (ks : List Kd) (l : Int), (pordK ks l).all gdB = true → okDs ks = true
  | [], l => by intro _; rw [okDs]
  | t :: r, l => by
    intro h
    rw [pordK, List.all_append, Bool.and_eq_true] at h
    rw [okDs, Bool.and_eq_true]
    exact ⟨okD_pord t l h.1, okDs_pord r l h.2⟩
end

theorem ok_of_qT {t : Kd} (h : 0 < qT t 1) : okD t = true ∧ ksz t ≤ 40 := by
  have h' : decide (0 < qT t 1) = true := decide_eq_true h
  rw [qT_start, Bool.and_eq_true] at h'
  refine ⟨okD_pord t 1 h'.1, ?_⟩
  rw [← pord_len t 1]; exact of_decide_eq_true h'.2

theorem name_size {s : ByteArray} (h : nameOkB s = true) : s.size ≤ 8 := by
  unfold nameOkB at h
  simp only [Bool.and_eq_true, decide_eq_true_eq] at h
  omega

theorem rise_size {ss : List ByteArray} (h : riseB ss = true) (i : Nat) (hi : i < ss.length) : ss[i].size ≤ 8 := by
  have hg : good ss i = true := by
    cases hh : good ss i
    · exact absurd (rise_no hi hh) (by rw [h]; simp)
    · rfl
  apply name_size
  cases hn : nameOkB ss[i]
  · rw [good_name hi hn] at hg; cases hg
  · rfl

theorem kAhead_len {ns : List ByteArray} (h : riseB ns = true) (i : Nat) (hi : i < ns.length) : (kAhead ns i).length ≤ 10 := by
  have h1 := rise_size h i hi
  have e : (ns.getD i ByteArray.empty) = ns[i] := by simp [List.getD, hi]
  unfold kAhead
  rw [e]
  have e2 : ns[i].data.toList.length = ns[i].size := rfl
  simp only [List.length_append, List.length_cons, List.length_nil, e2]
  split <;> simp <;> omega

mutual
theorem kxT_len : ∀ (t : Kd), okD t = true → (kxT t).length + 10 ≤ 14 * ksz t
  | .mk s ns ks => by
    intro h
    rw [okD, Bool.and_eq_true] at h
    rw [ksz]
    rcases shB_cases h.1 with ⟨h1, h2, h3⟩ | ⟨h1, h2, h3⟩ | ⟨h1, h2, h3⟩
    · rw [kxT_eq]
      rcases h1 with h1 | h1 | h1
      · rw [if_pos h1]; simp; omega
      · rw [if_neg (by omega), if_pos h1]; simp; omega
      · rw [if_neg (by omega), if_neg (by omega), if_pos h1]; simp; omega
    · have hm := kxM_len ks h.2
      have h2' : ks.length = 1 := h2
      rw [kxT_eq, if_neg (by omega), if_neg (by omega), if_neg (by omega)]
      by_cases h4 : (Kd.mk s ns ks).sort = 4
      · rw [if_pos h4]
        simp only [List.length_append, List.length_cons, List.length_nil]
        show 1 + (kxM ks).length + 1 + 10 ≤ _
        have := hm (by omega)
        omega
      · rw [if_neg h4, if_pos (by omega)]
        simp only [List.length_append, List.length_cons, List.length_nil]
        show 1 + (kxM ks).length + 10 ≤ _
        have := hm (by omega)
        omega
    · have hk := kxK_len ns h3 ks 0 (by have : ks.length = ns.length := h2; omega) h.2
      rw [kxT_eq, if_neg (by omega), if_neg (by omega), if_neg (by omega), if_neg (by omega), if_neg (by omega)]
      simp only [List.length_append, List.length_cons, List.length_nil]
      show 1 + (kxK ns 0 ks).length + 1 + 10 ≤ _
      omega
theorem kxM_len : ∀ (ks : List Kd), okDs ks = true → 0 < ks.length → (kxM ks).length + 10 ≤ 14 * klsz ks
  | [] => by intro _ h; simp at h
  | t :: r => by
    intro h _
    rw [okDs, Bool.and_eq_true] at h
    rw [kxM, klsz]
    have := kxT_len t h.1
    omega
theorem kxK_len (ns : List ByteArray) (hr : riseB ns = true) : ∀ (ks : List Kd) (i : Nat), i + ks.length ≤ ns.length → okDs ks = true → (kxK ns i ks).length ≤ 14 * klsz ks
  | [], i => by intro _ _; rw [kxK]; simp
  | t :: r, i => by
    intro hi h
    rw [okDs, Bool.and_eq_true] at h
    rw [kxK, klsz]
    simp only [List.length_cons] at hi
    have h1 := kxT_len t h.1
    have h2 := kxK_len ns hr r (i + 1) (by omega) h.2
    have h3 := kAhead_len hr i (by omega)
    simp only [List.length_append]
    omega
end

/-- The text of a schema that is ok is short. -/
theorem kxT_short {t : Kd} (h : 0 < qT t 1) : (kxT t).length ≤ 560 := by
  obtain ⟨h1, h2⟩ := ok_of_qT h
  have := kxT_len t h1
  omega

end Go.Proofs.YtgamonfmgngilaaGreatDoor

/- The walks of the specification's l5Num, l5Text; how many draws a tree of a schema takes; what a tree that is being drawn has gathered, beside the reader's block. No conditions. -/

namespace Go.Proofs.YtgamonfmgngilaaGreatDoor
open Go Go.RowKit

/-- Nothing below B has turned but block R. -/
structure BB (R B : Nat) (w w' : World) : Prop where
  os : w'.os = w.os
  tape : w'.tape = w.tape
  output : w'.output = w.output
  size : w.heap.size ≤ w'.heap.size
  block : ∀ i, i < B → i ≠ R → w'.heap[i]? = w.heap[i]?
theorem BB.refl (R B : Nat) (w : World) : BB R B w w := ⟨rfl, rfl, rfl, Nat.le_refl _, fun _ _ _ => rfl⟩
theorem BB.trans {R B : Nat} {a b c : World} (h : BB R B a b) (k : BB R B b c) : BB R B a c :=
  ⟨k.os.trans h.os, k.tape.trans h.tape, k.output.trans h.output, Nat.le_trans h.size k.size, fun i hi hn => (k.block i hi hn).trans (h.block i hi hn)⟩
theorem But.bb {R B : Nat} {w w' : World} (h : But R w w') (hB : B ≤ w.heap.size) : BB R B w w' := ⟨h.os, h.tape, h.output, h.size, fun _ hi hn => h.at (Nat.lt_of_lt_of_le hi hB) hn⟩
theorem BB.set {R B : Nat} {a w : World} (h : BB R B a w) {X o : Nat} (hX : B ≤ X) (u : Value) : BB R B a (w.setCell ⟨X, o, none⟩ u) :=
  ⟨h.os, h.tape, h.output, by simp only [size_setCell]; exact h.size, fun i hi hn => (Below.heap_setCell _ _ _ _ (by simp; omega)).trans (h.block i hi hn)⟩
theorem BB.grown {R B : Nat} {a w w' : World} {row : Option Nat} (h : BB R B a w) (hg : w.grownBy w' row) (hB : B ≤ w.heap.size) (hr : ∀ x, row = some x → B ≤ x) : BB R B a w' :=
  ⟨hg.os.trans h.os, hg.tape.trans h.tape, hg.output.trans h.output, Nat.le_trans h.size hg.size, fun i hi hn => (hg.block i (Nat.lt_of_lt_of_le hi hB) (fun e => by have := hr i e.symm; omega)).trans (h.block i hi hn)⟩
theorem BB.drew {R B : Nat} {a w : World} (h : BB R B a w) : BB R B a w.drew := ⟨h.os, h.tape, h.output, h.size, h.block⟩
theorem BB.but {R : Nat} {w w' : World} (h : BB R w.heap.size w w') : But R w w' := ⟨h.os, h.tape, h.output, h.size, fun i hi hn => h.block i hi (fun e => hn (by rw [e]))⟩
theorem But.gb {R : Nat} {w w' : World} (h : But R w w') : w.grownBy w' (some R) := h

theorem SInv.but {R base B : Nat} {w w' : World} {s : Int} {vN vK : Value} {ns : List ByteArray} {ks : List Tr} {xs : List Value} {G : List Nat} (h : SInv base B w s vN vK ns ks xs G) (hb : But R w w') (hR : R < B) : SInv base B w' s vN vK ns ks xs G := by
  have hB := h.hB
  refine ⟨h.hB, h.cells.of_block (hb.at h.cells.lt (by omega)), h.names.kept hb.gb ?_, h.got.other hb.gb (fun b e => ?_), h.apart, Nat.le_trans h.size hb.size⟩
  · rcases e : vN.ownBlock with _ | g
    · exact Or.inl rfl
    · exact Or.inr (fun e2 => by have := (h.names.lt g e).1; simp only [Option.some.injEq] at e2; omega)
  · simp only [Option.some.injEq] at e
    subst e
    exact ⟨fun e2 => by have := (h.got.row.lt R e2).1; omega, fun hm => by have := (h.got.lt R hm).1; omega⟩

mutual
/-- How many draws, at most. -/
def ndr : Kd → Nat
  | .mk _ _ ks => 3 + 3 * nds ks
def nds : List Kd → Nat
  | [] => 0
  | k :: r => ndr k + nds r
end
theorem nd_eq (k : Kd) : ndr k = 3 + 3 * nds k.kids := by obtain ⟨s, ns, ks⟩ := k; rw [ndr]; rfl
theorem nds_take : ∀ (ks : List Kd) (i : Nat), (hi : i < ks.length) → nds (ks.take (i + 1)) = nds (ks.take i) + ndr ks[i]
  | [], i, hi => by simp at hi
  | k :: r, 0, _ => by simp [nds]
  | k :: r, i + 1, hi => by
    have := nds_take r i (by simpa using hi)
    simp only [List.take_succ_cons, nds, List.getElem_cons_succ]
    rw [this]; omega
theorem nds_le : ∀ (ks : List Kd) (i : Nat), nds (ks.take i) ≤ nds ks
  | [], i => by simp
  | k :: r, 0 => by simp [nds]
  | k :: r, i + 1 => by
    have := nds_le r i
    simp only [List.take_succ_cons, nds]; omega
mutual
theorem nd_bd : ∀ (k : Kd) (d : Nat), d ≤ 6 → qT k (7 - (d : Int)) ≠ -1 → ndr k ≤ 3 ^ (d + 1) * ksz k
  | .mk s ns ks, d, hd, hq => by
    rw [qT] at hq
    by_cases h : 6 < 7 - (d : Int) ∨ shB (.mk s ns ks) = false
    · rw [if_pos h] at hq; exact absurd rfl hq
    · rw [if_neg h] at hq
      obtain ⟨d, rfl⟩ : ∃ e, d = e + 1 := ⟨d - 1, by omega⟩
      have := nds_bd ks d (by omega) 1 (by omega) (by rw [show (6 - (d : Int)) = 7 - ((d + 1 : Nat) : Int) from by omega]; exact hq)
      rw [ndr, ksz]
      have e : 3 ^ (d + 1 + 1) = 3 * 3 ^ (d + 1) := by rw [Nat.pow_succ, Nat.mul_comm]
      have h1 : 1 ≤ 3 ^ (d + 1) := Nat.one_le_pow _ _ (by decide)
      have e2 : 3 * 3 ^ (d + 1) * (1 + klsz ks) = 3 * 3 ^ (d + 1) + 3 * (3 ^ (d + 1) * klsz ks) := by rw [Nat.mul_add, Nat.mul_one, Nat.mul_assoc]
      rw [e, e2]
      omega
theorem nds_bd : ∀ (ks : List Kd) (d : Nat), d ≤ 6 → ∀ n : Int, 1 ≤ n → qK ks (6 - (d : Int)) n ≠ -1 → nds ks ≤ 3 ^ (d + 1) * klsz ks
  | [], d, hd, n, hn, hq => by simp [nds]
  | k :: r, d, hd, n, hn, hq => by
    rw [qK] at hq
    split at hq
    · exact absurd rfl hq
    · rename_i h
      have hb := qT_bd k (6 - (d : Int) + 1)
      have h1 := nd_bd k d hd (by rw [show (7 - (d : Int)) = 6 - (d : Int) + 1 from by omega]; omega)
      have h2 := nds_bd r d hd _ (by omega) hq
      rw [nds, klsz, Nat.mul_add]
      omega
end
/-- Of a schema that is ok. -/
theorem nd_ok {k : Kd} (h : 0 < qT k 1) : ndr k ≤ 100000 := by
  have h1 := nd_bd k 6 (by omega) (by rw [show (7 - ((6 : Nat) : Int)) = 1 from by omega]; omega)
  have h2 := (ok_of_qT h).2
  have : 3 ^ (6 + 1) * ksz k ≤ 3 ^ (6 + 1) * 40 := Nat.mul_le_mul_left _ h2
  have : 3 ^ (6 + 1) * 40 = 87480 := by decide
  omega

mutual
/-- No tree in it has more than a million names. -/
def nmT : Tr → Prop
  | .mk _ _ _ ns ks => ns.length ≤ 1000000 ∧ nmK ks
def nmK : List Tr → Prop
  | [] => True
  | t :: r => nmT t ∧ nmK r
end
theorem nmT_eq (t : Tr) : nmT t = (t.names.length ≤ 1000000 ∧ nmK t.kids) := by obtain ⟨s, n, x, ns, ks⟩ := t; rw [nmT]; rfl
theorem nmK_snoc {ts : List Tr} {t : Tr} (h : nmK ts) (ht : nmT t) : nmK (ts ++ [t]) := by
  induction ts with
  | nil => rw [List.nil_append, nmK]; exact ⟨ht, by rw [nmK]; trivial⟩
  | cons a r ih => rw [nmK] at h; rw [List.cons_append, nmK]; exact ⟨h.1, ih h.2⟩
theorem nmK_get : ∀ {ts : List Tr}, nmK ts → ∀ (i : Nat) (hi : i < ts.length), nmT ts[i]
  | [], _, i, hi => by simp at hi
  | t :: r, h, 0, _ => by rw [nmK] at h; exact h.1
  | t :: r, h, i + 1, hi => by rw [nmK] at h; exact nmK_get h.2 i (by simpa using hi)
theorem lsz_snoc (ts : List Tr) (t : Tr) : lsz (ts ++ [t]) = lsz ts + tsz t := by
  induction ts with
  | nil => simp [lsz]
  | cons a r ih => rw [List.cons_append, lsz, lsz, ih]; omega

/-- What drawing a number comes to. -/
def NmEnd (R : Nat) (w w' : World) (v : Value) (b : List UInt8) (p : Nat) (e : Ending) : Prop :=
  ∃ (z : Int) (p' : Nat), e = .returned (.int .i64 z) ∧ I64 z ∧ p' ≤ p + 3 ∧ Hid (DR R w' v b p') ∧ Hid (But R w w')

set_option maxRecDepth 100000 in
set_option maxHeartbeats 1600000 in
theorem l5Num_any (R : Nat) (w : World) (v : Value) (b : List UInt8) (p : Nat) (h : DR R w v b p) (hp : p ≤ 100000000) :
    Calls Tryz.prog 82 #[.pointer (some ⟨R, 0, none⟩)] w fun e w' => NmEnd R w w' v b p e := by
  have HPK := hide (pick_any R w v b p 9 h (by omega) (by omega))
  clear h
  go_enter Tryz.func82, Tryz.ntmps82
  go_wp2_with fail
  refine (unhide HPK).mono ?_
  rintro e w1 ⟨r, rfl, hr, HD1, HB1⟩
  have HPN := hide (fun n (hn : 1 ≤ n ∧ n ≤ 1000000) => pick_any R w1 v b (p + 1) n HD1.out hn (by omega))
  clear HPK
  rcases (show r = 0 ∨ r = 1 ∨ r = 2 ∨ r = 3 ∨ 4 ≤ r by omega) with rfl | rfl | rfl | rfl | hr4
  · go_wp2_with fail
    go_ret
    exact ⟨_, p + 1, rfl, ⟨by decide, by decide⟩, by omega, HD1, HB1⟩
  · go_wp2_with fail
    go_ret
    exact ⟨_, p + 1, rfl, ⟨by decide, by decide⟩, by omega, HD1, HB1⟩
  · go_wp2_with fail
    refine (unhide HPN 250 (by omega)).mono ?_
    rintro e w2 ⟨r2, rfl, hr2, HD2, HB2⟩
    have HP2 := hide (pick_any R w2 v b (p + 1 + 1) 200 HD2.out (by omega) (by omega))
    have hw1 : IntKind.i64.wrap ((r2 : Int) * 4000000) = (r2 : Int) * 4000000 := by rw [IntKind.wrap_i64]; omega
    go_wp2_with fail
    refine (unhide HP2).mono ?_
    rintro e w3 ⟨r3, rfl, hr3, HD3, HB3⟩
    have hw2 : IntKind.i64.wrap ((r2 : Int) * 4000000 + (r3 : Int)) = (r2 : Int) * 4000000 + (r3 : Int) := by rw [IntKind.wrap_i64]; omega
    go_wp2_with fail
    go_ret
    exact ⟨_, p + 1 + 1 + 1, rfl, ⟨by omega, by omega⟩, by omega, HD3, HB1.out.trans (HB2.out.trans HB3.out)⟩
  · go_wp2_with fail
    refine (unhide HPN 2 (by omega)).mono ?_
    rintro e w2 ⟨r2, rfl, hr2, HD2, HB2⟩
    have hw1 : IntKind.i64.wrap (127 + (r2 : Int)) = 127 + (r2 : Int) := by rw [IntKind.wrap_i64]; omega
    go_wp2_with fail
    go_ret
    exact ⟨_, p + 1 + 1, rfl, ⟨by omega, by omega⟩, by omega, HD2, HB1.out.trans HB2.out⟩
  · have z0 : ((r : Int) == 0) = false := beq_eq_false_iff_ne.2 (by omega)
    have z1 : ((r : Int) == 1) = false := beq_eq_false_iff_ne.2 (by omega)
    have z2 : ((r : Int) == 2) = false := beq_eq_false_iff_ne.2 (by omega)
    have z3 : ((r : Int) == 3) = false := beq_eq_false_iff_ne.2 (by omega)
    go_wp2_with fail
    refine (unhide HPN 12 (by omega)).mono ?_
    rintro e w2 ⟨r2, rfl, hr2, HD2, HB2⟩
    have hw1 : IntKind.i64.wrap ((r2 : Int) - 3) = (r2 : Int) - 3 := by rw [IntKind.wrap_i64]; omega
    go_wp2_with fail
    go_ret
    exact ⟨_, p + 1 + 1, rfl, ⟨by omega, by omega⟩, by omega, HD2, HB1.out.trans HB2.out⟩

/-- What drawing a text comes to. -/
def TxEnd (R : Nat) (w w' : World) (v : Value) (b : List UInt8) (p : Nat) (e : Ending) : Prop :=
  ∃ (x : ByteArray) (p' : Nat), e = .returned (.string x) ∧ x.size ≤ 2000 ∧ p' ≤ p + 2 ∧ Hid (DR R w' v b p') ∧ Hid (But R w w')

def tx13 : List ByteArray := [⟨#[]⟩, ⟨#[97]⟩, ⟨#[97, 98]⟩, ⟨#[120, 32, 121]⟩, ⟨#[121, 101, 115]⟩, ⟨#[110, 111]⟩, ⟨#[126]⟩, ⟨#[49, 50]⟩, ⟨#[45, 51]⟩, ⟨#[97, 44, 98, 58, 99]⟩, ⟨#[91, 49, 93]⟩, ⟨#[108, 101, 102, 116]⟩, ⟨#[114, 105, 103, 104, 116]⟩]

set_option maxRecDepth 100000 in
set_option maxHeartbeats 1600000 in
theorem l5Text_any (R : Nat) (w : World) (v : Value) (b : List UInt8) (p : Nat) (h : DR R w v b p) (hp : p ≤ 1000000) :
    Calls Tryz.prog 83 #[.pointer (some ⟨R, 0, none⟩)] w fun e w' => TxEnd R w w' v b p e := by
  have HPK := hide (pick_any R w v b p 30 h (by omega) (by omega))
  clear h
  go_enter Tryz.func83, Tryz.ntmps83
  go_wp2_with fail
  refine (unhide HPK).mono ?_
  rintro e w1 ⟨r, rfl, hr, HD1, HB1⟩
  clear HPK
  by_cases h0 : r = 0
  · subst h0
    have HM := hide (l6Many_any w1 ⟨#[120]⟩ 60 (by decide) (by omega))
    go_wp2_with fail
    refine (unhide HM).mono ?_
    rintro e w2 ⟨out, rfl, ho, rfl⟩
    go_wp2_with fail
    go_ret
    exact ⟨out, p + 1, rfl, ho, by omega, HD1, HB1⟩
  · have z0 : ((r : Int) == 0) = false := beq_eq_false_iff_ne.2 (by omega)
    have HOF := hide (of_row R w1 v b (p + 1) HD1.out (by omega) tx13 (by decide) (by decide) (fun i hi => by
      have hi' : i < 13 := hi
      rcases (show i = 0 ∨ i = 1 ∨ i = 2 ∨ i = 3 ∨ i = 4 ∨ i = 5 ∨ i = 6 ∨ i = 7 ∨ i = 8 ∨ i = 9 ∨ i = 10 ∨ i = 11 ∨ i = 12 by omega) with rfl | rfl | rfl | rfl | rfl | rfl | rfl | rfl | rfl | rfl | rfl | rfl | rfl <;> decide))
    go_wp2_with fail
    refine (unhide HOF).mono ?_
    rintro e w2 ⟨x, rfl, hx, HD2, HB2⟩
    go_wp2_with fail
    go_ret
    exact ⟨x, p + 1 + 1, rfl, hx, by omega, HD2, HB1.out.trans HB2.out⟩
end Go.Proofs.YtgamonfmgngilaaGreatDoor

/- The walk of the specification's l5Tree, where it reads no kids or at most one: some tree, in blocks of its own. Draws at most 10^6. -/

namespace Go.Proofs.YtgamonfmgngilaaGreatDoor
open Go Go.RowKit

theorem infoTreeD : (Tryz.prog.info? 26).map (fun i => (i.zero, i.size, i.bytes)) = some (some (.agg #[.int .i64 0, .int .i64 0, .string ByteArray.empty, .slice none 0 0, .slice none 0 0]), 5, 80) := by kernel_rfl
theorem Own.leafD (w : World) (s n : Int) (tx : ByteArray) (hs : I64 s) (hn : I64 n) (ht : tx.size ≤ 9223372036854775807) : Own w (.mk s n tx [] []) ⟨.int .i64 s, .int .i64 n, .string tx, .slice none 0 0, .slice none 0 0⟩ [] :=
  Own.make (t := .mk s n tx [] []) (F1 := []) (F2 := []) rfl rfl rfl hs hn ht ⟨none, 0, rfl, by simp [Tr.names], Or.inl ⟨rfl, rfl⟩⟩ ⟨none, 0, rfl, by simp [Tr.kids], Or.inl ⟨rfl, rfl⟩⟩

/-- What drawing a tree comes to. -/
def TsEnd (N R : Nat) (w w' : World) (v : Value) (b : List UInt8) (p : Nat) (e : Ending) : Prop :=
  ∃ (t : Tr) (c : C5) (F : List Nat) (p' : Nat), e = .returned (.agg #[c.c0, c.c1, c.c2, c.c3, c.c4]) ∧ Own w' t c F ∧ F.Nodup ∧ (∀ x, x ∈ F → w.heap.size ≤ x ∧ x < w'.heap.size) ∧ DR R w' v b p' ∧ p' ≤ p + N ∧ But R w w' ∧ tsz t ≤ N ∧ nmT t

def LtSaid (n : Nat) : Prop := ∀ (k : Kd), ksz k < n → ∀ (P : Nat → Prop) (c : C3) (w : World) (R : Nat) (v : Value) (b : List UInt8) (p : Nat), (∀ x, P x → x < w.heap.size ∧ x ≠ R) → KRep P w k c → okD k = true → DR R w v b p → p + ndr k ≤ 1000000 →
  Calls Tryz.prog 49 #[.pointer (some ⟨R, 0, none⟩), .agg #[c.c0, c.c1, c.c2]] w fun e w' => TsEnd (ndr k) R w w' v b p e

/-- The answer is put into its box. -/
theorem ts_end {N R : Nat} {w W : World} {v : Value} {b : List UInt8} {p p' : Nat} {t : Tr} {c : C5} {F : List Nat} (hR : R < w.heap.size) (ho : Own W t c F) (hnd : F.Nodup) (hF : ∀ x, x ∈ F → w.heap.size + 2 < x ∧ x < W.heap.size) (hd : DR R W v b p') (h1 : p' ≤ p + N) (hb : But R w W) (hsz : tsz t ≤ N ∧ nmT t) (c0 c1 c2 c3 c4 : Value) :
    TsEnd N R w (((((W.setCell ⟨w.heap.size + 1, 0, none⟩ c0).setCell ⟨w.heap.size + 1, 1, none⟩ c1).setCell ⟨w.heap.size + 1, 2, none⟩ c2).setCell ⟨w.heap.size + 1, 3, none⟩ c3).setCell ⟨w.heap.size + 1, 4, none⟩ c4) v b p (.returned (.agg #[c.c0, c.c1, c.c2, c.c3, c.c4])) := by
  refine ⟨t, c, F, p', rfl, Own.carry _ _ F (fun y hy => by have := (hF y hy).1; repeat rw [Below.heap_setCell _ _ _ _ (by simp; omega)]) ho, hnd, fun x hx => ⟨by have := (hF x hx).1; omega, by simp only [size_setCell]; exact (hF x hx).2⟩, ?_, h1, ?_, hsz⟩
  · repeat refine DR.set ?_ (by omega) _ _
    exact hd
  · repeat refine but_setx ?_ (by omega) _ _
    exact hb

/-- How the walk begins: the boxes of the schema, of the answer, of the tree. -/
structure LS (w W0 : World) (s : Int) (vN vK : Value) : Prop where
  size : W0.heap.size = w.heap.size + 3
  bl : Below w.heap.size w W0
  r0 : W0.rowIs w.heap.size 77 3 (row3 (.int .i64 s) vN vK)
  r1 : W0.rowIs (w.heap.size + 1) 26 5 (row5 (.int .i64 0) (.int .i64 0) (.string ⟨#[]⟩) (.slice none 0 0) (.slice none 0 0))
  r2 : W0.rowIs (w.heap.size + 2) 26 5 (row5 (.int .i64 s) (.int .i64 0) (.string ⟨#[]⟩) (.slice none 0 0) (.slice none 0 0))
theorem LS.start (w : World) (s : Int) (vN vK : Value) : LS w (((w.alloc (.cells #[.int .i64 s, vN, vK] 77)).alloc (.cells #[.int .i64 0, .int .i64 0, .string ⟨#[]⟩, .slice none 0 0, .slice none 0 0] 26)).alloc (.cells #[.int .i64 s, .int .i64 0, .string ⟨#[]⟩, .slice none 0 0, .slice none 0 0] 26)) s vN vK := by
  refine ⟨by simp, (((Below.refl _ _).alloc (Nat.le_refl _) _).alloc (by simp) _).alloc (by simp; omega) _, ((row3_alloc w _ _ _ _).alloc _).alloc _, ?_, ?_⟩
  · have q := row5_alloc (w.alloc (.cells #[.int .i64 s, vN, vK] 77)) (.int .i64 0) (.int .i64 0) (.string ⟨#[]⟩) (.slice none 0 0) (.slice none 0 0) 26
    rw [World.size_alloc] at q
    exact q.alloc _
  · have q := row5_alloc ((w.alloc (.cells #[.int .i64 s, vN, vK] 77)).alloc (.cells #[.int .i64 0, .int .i64 0, .string ⟨#[]⟩, .slice none 0 0, .slice none 0 0] 26)) (.int .i64 s) (.int .i64 0) (.string ⟨#[]⟩) (.slice none 0 0) (.slice none 0 0) 26
    rw [World.size_alloc, World.size_alloc] at q
    exact q

/-- A tree without kids is put into its box, one of its cells having been set. -/
theorem lt_leaf {N R : Nat} {w W0 W : World} {v : Value} {b : List UInt8} {p p' : Nat} {s z : Int} {tx : ByteArray} {vN vK : Value} (hs : I64 s) (hz : I64 z) (ht : tx.size ≤ 9223372036854775807) (hR : R < w.heap.size) (hL : LS w W0 s vN vK) (hd : DR R W v b p') (h1 : p' ≤ p + N) (hN : 1 ≤ N) (hb : But R W0 W) (o : Nat) (u : Value) (c0 c1 c2 c3 c4 : Value) :
    TsEnd N R w ((((((W.setCell ⟨w.heap.size + 2, o, none⟩ u).setCell ⟨w.heap.size + 1, 0, none⟩ c0).setCell ⟨w.heap.size + 1, 1, none⟩ c1).setCell ⟨w.heap.size + 1, 2, none⟩ c2).setCell ⟨w.heap.size + 1, 3, none⟩ c3).setCell ⟨w.heap.size + 1, 4, none⟩ c4) v b p (.returned (.agg #[.int .i64 s, .int .i64 z, .string tx, .slice none 0 0, .slice none 0 0])) :=
  ts_end (t := .mk s z tx [] []) (c := ⟨_, _, _, _, _⟩) (F := []) hR (Own.leafD _ s z tx hs hz ht) List.nodup_nil (fun x hx => by cases hx) (hd.set (by omega) _ _) h1 (but_setx ((But.of_below hL.bl).trans hb) (by omega) _ _) ⟨by simp [tsz, lsz]; omega, by simp [nmT, nmK]⟩ c0 c1 c2 c3 c4

set_option maxRecDepth 100000 in
set_option maxHeartbeats 3200000 in
theorem lt_123 (k : Kd) (hk : k.sort = 1 ∨ k.sort = 2 ∨ k.sort = 3) (P : Nat → Prop) (c : C3) (w : World) (R : Nat) (v : Value) (b : List UInt8) (p : Nat) (hrep : KRep P w k c) (hd : DR R w v b p) (hp : p + ndr k ≤ 1000000) :
    Calls Tryz.prog 49 #[.pointer (some ⟨R, 0, none⟩), .agg #[c.c0, c.c1, c.c2]] w fun e w' => TsEnd (ndr k) R w w' v b p e := by
  have hnd : 3 ≤ ndr k := by rw [nd_eq]; omega
  have hR := hd.cells.lt
  obtain ⟨c0, c1, c2⟩ := c
  obtain ⟨e0, hi0, hns, a, cap, e2, -, hks⟩ := hrep.open
  simp only at e0 e2 hns
  obtain ⟨a3, cap3, e1, -, hnc⟩ := hns
  subst e0 e1 e2
  have hstart := fun s => LS.start w s (.slice a3 k.names.length cap3) (.slice a k.kids.length cap)
  have HST := hide hstart; have HD := hide hd
  clear hks hnc hrep hd hstart hi0
  generalize k.names.length = nN at *
  generalize k.kids.length = nK at *
  generalize ndr k = N at *
  rcases hk with hk | hk | hk
  all_goals
    rw [hk]
    clear hk
    go_enter Tryz.func49, Tryz.ntmps49
    go_wp2_with fail
  · have hL := unhide HST 1
    generalize hW0 : (((w.alloc (.cells #[.int .i64 1, .slice a3 nN cap3, .slice a nK cap] 77)).alloc (.cells #[.int .i64 0, .int .i64 0, .string ⟨#[]⟩, .slice none 0 0, .slice none 0 0] 26)).alloc (.cells #[.int .i64 1, .int .i64 0, .string ⟨#[]⟩, .slice none 0 0, .slice none 0 0] 26)) = W0 at *
    clear hW0
    refine (l5Num_any R W0 v b p ((unhide HD).on hL.bl) (by omega)).mono ?_
    rintro e w1 ⟨z, p', rfl, hz, hp', HD1, HB1⟩
    have r1 := hL.r1.of_block (HB1.out.at hL.r1.lt (by omega)); have r2 := hL.r2.of_block (HB1.out.at hL.r2.lt (by omega))
    have y0 := r1.cell (i := 0) (by omega); have y1 := r1.cell (i := 1) (by omega); have y2 := r1.cell (i := 2) (by omega); have y3 := r1.cell (i := 3) (by omega); have y4 := r1.cell (i := 4) (by omega); have yf := r1.frozen
    have t0 := r2.cell (i := 0) (by omega); have t1 := r2.cell (i := 1) (by omega); have t2 := r2.cell (i := 2) (by omega); have t3 := r2.cell (i := 3) (by omega); have t4 := r2.cell (i := 4) (by omega); have tf := r2.frozen
    simp only [row5] at y0 y1 y2 y3 y4 t0 t1 t2 t3 t4
    have HEND := hide (fun c0 c1 c2 c3 c4 => lt_leaf (N := N) (p := p) (s := 1) (tx := ⟨#[]⟩) ⟨by decide, by decide⟩ hz (by decide) hR hL HD1.out (by omega) (by omega) HB1.out 1 (.int .i64 z) c0 c1 c2 c3 c4)
    clear r1 r2 HD1 HB1 hL HST HD
    go_wp2_with fail
    refine bodyPost_ret (v := .agg #[.int .i64 1, .int .i64 z, .string ⟨#[]⟩, .slice none 0 0, .slice none 0 0]) (by simp [results, Tryz.results49, go_sem, y0, y1, y2, y3, y4]) rfl ?_
    exact unhide HEND _ _ _ _ _
  · have hL := unhide HST 2
    generalize hW0 : (((w.alloc (.cells #[.int .i64 2, .slice a3 nN cap3, .slice a nK cap] 77)).alloc (.cells #[.int .i64 0, .int .i64 0, .string ⟨#[]⟩, .slice none 0 0, .slice none 0 0] 26)).alloc (.cells #[.int .i64 2, .int .i64 0, .string ⟨#[]⟩, .slice none 0 0, .slice none 0 0] 26)) = W0 at *
    clear hW0
    refine (l5Text_any R W0 v b p ((unhide HD).on hL.bl) (by omega)).mono ?_
    rintro e w1 ⟨z, p', rfl, hz, hp', HD1, HB1⟩
    have r1 := hL.r1.of_block (HB1.out.at hL.r1.lt (by omega)); have r2 := hL.r2.of_block (HB1.out.at hL.r2.lt (by omega))
    have y0 := r1.cell (i := 0) (by omega); have y1 := r1.cell (i := 1) (by omega); have y2 := r1.cell (i := 2) (by omega); have y3 := r1.cell (i := 3) (by omega); have y4 := r1.cell (i := 4) (by omega); have yf := r1.frozen
    have t0 := r2.cell (i := 0) (by omega); have t1 := r2.cell (i := 1) (by omega); have t2 := r2.cell (i := 2) (by omega); have t3 := r2.cell (i := 3) (by omega); have t4 := r2.cell (i := 4) (by omega); have tf := r2.frozen
    simp only [row5] at y0 y1 y2 y3 y4 t0 t1 t2 t3 t4
    have HEND := hide (fun c0 c1 c2 c3 c4 => lt_leaf (N := N) (p := p) (s := 2) (z := 0) (tx := z) ⟨by decide, by decide⟩ ⟨by decide, by decide⟩ (by omega) hR hL HD1.out (by omega) (by omega) HB1.out 2 (.string z) c0 c1 c2 c3 c4)
    clear r1 r2 HD1 HB1 hL HST HD
    go_wp2_with fail
    refine bodyPost_ret (v := .agg #[.int .i64 2, .int .i64 0, .string z, .slice none 0 0, .slice none 0 0]) (by simp [results, Tryz.results49, go_sem, y0, y1, y2, y3, y4]) rfl ?_
    exact unhide HEND _ _ _ _ _
  · have hL := unhide HST 3
    generalize hW0 : (((w.alloc (.cells #[.int .i64 3, .slice a3 nN cap3, .slice a nK cap] 77)).alloc (.cells #[.int .i64 0, .int .i64 0, .string ⟨#[]⟩, .slice none 0 0, .slice none 0 0] 26)).alloc (.cells #[.int .i64 3, .int .i64 0, .string ⟨#[]⟩, .slice none 0 0, .slice none 0 0] 26)) = W0 at *
    clear hW0
    refine (pick_any R W0 v b p 2 ((unhide HD).on hL.bl) (by omega) (by omega)).mono ?_
    rintro e w1 ⟨z, rfl, hz, HD1, HB1⟩
    have r1 := hL.r1.of_block (HB1.out.at hL.r1.lt (by omega)); have r2 := hL.r2.of_block (HB1.out.at hL.r2.lt (by omega))
    have y0 := r1.cell (i := 0) (by omega); have y1 := r1.cell (i := 1) (by omega); have y2 := r1.cell (i := 2) (by omega); have y3 := r1.cell (i := 3) (by omega); have y4 := r1.cell (i := 4) (by omega); have yf := r1.frozen
    have t0 := r2.cell (i := 0) (by omega); have t1 := r2.cell (i := 1) (by omega); have t2 := r2.cell (i := 2) (by omega); have t3 := r2.cell (i := 3) (by omega); have t4 := r2.cell (i := 4) (by omega); have tf := r2.frozen
    simp only [row5] at y0 y1 y2 y3 y4 t0 t1 t2 t3 t4
    have HEND := hide (fun c0 c1 c2 c3 c4 => lt_leaf (N := N) (p := p) (s := 3) (z := (z : Int)) (tx := ⟨#[]⟩) ⟨by decide, by decide⟩ ⟨by omega, by omega⟩ (by decide) hR hL HD1.out (by omega) (by omega) HB1.out 1 (.int .i64 (z : Int)) c0 c1 c2 c3 c4)
    clear r1 r2 HD1 HB1 hL HST HD
    go_wp2_with fail
    refine bodyPost_ret (v := .agg #[.int .i64 3, .int .i64 (z : Int), .string ⟨#[]⟩, .slice none 0 0, .slice none 0 0]) (by simp [results, Tryz.results49, go_sem, y0, y1, y2, y3, y4]) rfl ?_
    exact unhide HEND _ _ _ _ _
end Go.Proofs.YtgamonfmgngilaaGreatDoor
