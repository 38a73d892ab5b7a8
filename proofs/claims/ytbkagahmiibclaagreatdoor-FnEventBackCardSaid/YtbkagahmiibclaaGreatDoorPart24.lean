/- The text of a tree, as a plain function on data; trees all of whose parts are ok but for their count. No program, no conditions. -/
import Derived.Test.YtbkagahmiibclaaGreatDoorPart03
import Derived.Lib.ItoaNum
import Derived.Test.YtbkagahmiibclaaGreatDoorPart19
import Derived.Lib.AtoiAllCases
import Derived.Lib.ItoaMem
namespace Go.Proofs.YtbkagahmiibclaaGreatDoor
open Go Go.RowKit

/-- What stands ahead of kid i of a list or form. -/
def ahead (form : Bool) (ns : List ByteArray) (i : Nat) : List UInt8 :=
  (if 0 < i then [44] else []) ++ (if form then (ns.getD i ByteArray.empty).data.toList ++ [58] else [])

mutual
def txT : Tr → List UInt8
  | .mk s n tx ns ks =>
    if s = 1 then Lib.itoa n
    else if s = 2 then [34] ++ tx.data.toList ++ [34]
    else if s = 3 then (if n = 1 then [121, 101, 115] else [110, 111])
    else if s = 6 then (if ks.length = 0 then [126] else [63] ++ txM ks)
    else if s = 5 then [123] ++ txK true ns 0 ks ++ [125]
    else [91] ++ txK false ns 0 ks ++ [93]
def txM : List Tr → List UInt8
  | [] => []
  | t :: _ => txT t
def txK (form : Bool) (ns : List ByteArray) (i : Nat) : List Tr → List UInt8
  | [] => []
  | t :: r => ahead form ns i ++ txT t ++ txK form ns (i + 1) r
end

mutual
def okT : Tr → Bool
  | .mk s n tx ns ks => aloneB (.mk s n tx ns ks) && okK ks
def okK : List Tr → Bool
  | [] => true
  | t :: r => okT t && okK r
end

theorem okT_eq (t : Tr) : okT t = (aloneB t && okK t.kids) := by
  obtain ⟨s, n, tx, ns, ks⟩ := t; rw [okT]; rfl
theorem okK_get {ks : List Tr} (h : okK ks = true) (i : Nat) (hi : i < ks.length) : okT ks[i] = true := by
  induction ks generalizing i with
  | nil => simp at hi
  | cons t r ih =>
    rw [okK, Bool.and_eq_true] at h
    cases i with
    | zero => exact h.1
    | succ i => exact ih h.2 i (by simpa using hi)

theorem txT_eq (t : Tr) : txT t = if t.sort = 1 then Lib.itoa t.num
    else if t.sort = 2 then [34] ++ t.text.data.toList ++ [34]
    else if t.sort = 3 then (if t.num = 1 then [121, 101, 115] else [110, 111])
    else if t.sort = 6 then (if t.kids.length = 0 then [126] else [63] ++ txM t.kids)
    else if t.sort = 5 then [123] ++ txK true t.names 0 t.kids ++ [125]
    else [91] ++ txK false t.names 0 t.kids ++ [93] := by
  obtain ⟨s, n, tx, ns, ks⟩ := t; rw [txT]; rfl

theorem txM_get {ks : List Tr} (h : 0 < ks.length) : txM ks = txT ks[0] := by
  cases ks with
  | nil => simp at h
  | cons t r => rw [txM]; rfl

/-- The text of the first k kids. -/
def txTo (form : Bool) (ns : List ByteArray) (ks : List Tr) (k : Nat) : List UInt8 := txK form ns 0 (ks.take k)

theorem txK_snoc (form : Bool) (ns : List ByteArray) (i : Nat) (l : List Tr) (t : Tr) : txK form ns i (l ++ [t]) = txK form ns i l ++ (ahead form ns (i + l.length) ++ txT t) := by
  induction l generalizing i with
  | nil => simp [txK]
  | cons a r ih =>
    simp only [List.cons_append, txK, List.length_cons]
    rw [ih (i + 1), show i + 1 + r.length = i + (r.length + 1) from by omega]
    simp only [List.append_assoc]

theorem txTo_succ (form : Bool) (ns : List ByteArray) (ks : List Tr) (k : Nat) (hk : k < ks.length) : txTo form ns ks (k + 1) = txTo form ns ks k ++ (ahead form ns k ++ txT ks[k]) := by
  unfold txTo
  rw [List.take_succ_eq_append_getElem hk, txK_snoc]
  simp [Nat.min_eq_left (Nat.le_of_lt hk)]

theorem txTo_all (form : Bool) (ns : List ByteArray) (ks : List Tr) : txTo form ns ks ks.length = txK form ns 0 ks := by
  unfold txTo; rw [List.take_length]

theorem txTo_le (form : Bool) (ns : List ByteArray) (ks : List Tr) (k : Nat) (hk : k ≤ ks.length) : (txTo form ns ks k).length ≤ (txK form ns 0 ks).length := by
  rw [← txTo_all]
  have : ∀ m, k + m ≤ ks.length → (txTo form ns ks k).length ≤ (txTo form ns ks (k + m)).length := by
    intro m
    induction m with
    | zero => intro _; exact Nat.le_refl _
    | succ m ih =>
      intro h
      rw [show k + (m + 1) = k + m + 1 from by omega, txTo_succ _ _ _ _ (by omega), List.length_append]
      have := ih (by omega); omega
  have := this (ks.length - k) (by omega)
  rwa [show k + (ks.length - k) = ks.length from by omega] at this

end Go.Proofs.YtbkagahmiibclaaGreatDoor

/- How the program and the specification read trees, as plain functions on lists of bytes. Definitions and small laws, no program. No conditions. -/

namespace Go.Proofs.YtbkagahmiibclaaGreatDoor
open Go Go.RowKit

def isDg (c : UInt8) : Bool := 48 ≤ c.toNat && c.toNat ≤ 57

/-- What a row of digits spells. -/
def dval (acc : Nat) (ds : List UInt8) : Nat := ds.foldl (fun n c => n * 10 + (c.toNat - 48)) acc

theorem dec_all (u : Nat) : ∀ c, c ∈ Lib.decDigits u → isDg c = true := by
  induction u using Nat.strongRecOn with
  | _ u ih =>
    intro c hc
    rw [Lib.decDigits] at hc
    have hd : ∀ m, m < 10 → isDg (UInt8.ofNat (48 + m)) = true := fun m hm => by
      unfold isDg; rw [UInt8.toNat_ofNat', Nat.mod_eq_of_lt (by omega)]; simp; omega
    by_cases h : u < 10
    · rw [dif_pos h] at hc
      simp only [List.mem_singleton] at hc
      rw [hc]; exact hd u h
    · rw [dif_neg h] at hc
      rcases List.mem_append.1 hc with hc | hc
      · exact ih (u / 10) (by omega) c hc
      · simp only [List.mem_singleton] at hc
        rw [hc]; exact hd _ (by omega)

theorem dec_val (u : Nat) : dval 0 (Lib.decDigits u) = u := by
  induction u using Nat.strongRecOn with
  | _ u ih =>
    rw [Lib.decDigits]
    by_cases h : u < 10
    · rw [dif_pos h]
      unfold dval
      simp only [List.foldl_cons, List.foldl_nil]
      rw [UInt8.toNat_ofNat', Nat.mod_eq_of_lt (by omega)]; omega
    · rw [dif_neg h]
      have := ih (u / 10) (by omega)
      unfold dval at this ⊢
      rw [List.foldl_append, this]
      simp only [List.foldl_cons, List.foldl_nil]
      rw [UInt8.toNat_ofNat', Nat.mod_eq_of_lt (by omega)]; omega

theorem dec_ne (u : Nat) : Lib.decDigits u ≠ [] := by
  intro h
  have := Lib.decDigits_length u
  have := Lib.nDigits_pos u
  rw [h] at *
  simp at *
  omega

theorem dec_len (k u : Nat) (h : u < 10 ^ (k + 1)) : (Lib.decDigits u).length ≤ k + 1 := by
  induction k generalizing u with
  | zero => rw [Lib.decDigits, dif_pos (by simpa using h)]; simp
  | succ k ih =>
    rw [Lib.decDigits]
    split
    · simp
    · have := ih (u / 10) (by rw [Nat.pow_succ] at h; omega)
      simp; omega

theorem dval_ge (ds : List UInt8) (acc : Nat) : acc ≤ dval acc ds := by
  induction ds generalizing acc with
  | nil => exact Nat.le_refl _
  | cons c r ih => unfold dval; rw [List.foldl_cons]; have := ih (acc * 10 + (c.toNat - 48)); unfold dval at this; omega

theorem parse_ok (ds : List UInt8) (acc : Nat) (h : ∀ c, c ∈ ds → isDg c = true) (hb : dval acc ds ≤ 999999999999) : Lib.parseUint10 acc ds = .ok (dval acc ds) := by
  induction ds generalizing acc with
  | nil => rfl
  | cons c r ih =>
    have hc := h c (by simp)
    unfold isDg at hc
    simp at hc
    have hb' : dval (acc * 10 + (c.toNat - 48)) r ≤ 999999999999 := hb
    have hge := dval_ge r (acc * 10 + (c.toNat - 48))
    rw [Lib.parseUint10, if_pos hc, if_neg (by omega), if_neg (by omega)]
    exact ih _ (fun c hc => h c (by simp [hc])) hb'

theorem itoa_cases (n : Int) : (0 ≤ n ∧ Lib.itoa n = Lib.decDigits n.toNat) ∨ (n < 0 ∧ Lib.itoa n = 45 :: Lib.decDigits n.natAbs) := by
  unfold Lib.itoa
  by_cases h : n < 0
  · rw [if_pos h]; exact Or.inr ⟨h, rfl⟩
  · rw [if_neg h]; exact Or.inl ⟨by omega, rfl⟩

theorem atoi_itoa (n : Int) (h0 : -999999999 ≤ n) (h1 : n ≤ 999999999) : Lib.atoiAll (Lib.itoa n) = .ok n := by
  rcases itoa_cases n with ⟨hn, e⟩ | ⟨hn, e⟩
  · rw [e]
    obtain ⟨c, r, hcr⟩ : ∃ c r, Lib.decDigits n.toNat = c :: r := List.exists_cons_of_ne_nil (dec_ne _)
    have hall := dec_all n.toNat
    have hv := dec_val n.toNat
    have hc := hall c (by rw [hcr]; simp)
    unfold isDg at hc
    simp at hc
    have hp := parse_ok (Lib.decDigits n.toNat) 0 hall (by rw [hv]; omega)
    rw [hv] at hp
    rw [hcr] at hp ⊢
    rw [Lib.atoiAll_plain c r (by omega) (by omega)]
    unfold Lib.parseMag
    rw [if_neg (by simp), hp]
    show (if 9223372036854775808 ≤ n.toNat then Lib.NumEnd.range else .ok (n.toNat : Int)) = .ok n
    rw [if_neg (by omega), Int.toNat_of_nonneg hn]
  · rw [e, Lib.atoiAll_minus]
    have hall := dec_all n.natAbs
    have hv := dec_val n.natAbs
    have hp := parse_ok (Lib.decDigits n.natAbs) 0 hall (by rw [hv]; omega)
    rw [hv] at hp
    unfold Lib.parseMag
    rw [if_neg (dec_ne _), hp]
    show (if 9223372036854775808 < n.natAbs then Lib.NumEnd.range else .ok (-(n.natAbs : Int))) = .ok n
    rw [if_neg (by omega), show -(n.natAbs : Int) = n from by omega]

/-- What does not go on with a number. -/
def nd (rest : List UInt8) : Prop := ∀ c, rest.head? = some c → isDg c = false

theorem tw_append {p : UInt8 → Bool} {l rest : List UInt8} (hl : ∀ c, c ∈ l → p c = true) (hr : ∀ c, rest.head? = some c → p c = false) : (l ++ rest).takeWhile p = l ∧ (l ++ rest).dropWhile p = rest := by
  induction l with
  | nil =>
    cases rest with
    | nil => simp
    | cons c r => have := hr c rfl; simp [this]
  | cons c l ih =>
    have hc := hl c (by simp)
    have := ih (fun c hc => hl c (by simp [hc]))
    simp [hc, this.1, this.2]

def cma (n : Nat) (inp : List UInt8) : Option (List UInt8) := if n = 0 then some inp else if inp.head? = some 44 then some inp.tail else none
def nmr (form : Bool) (ns : List ByteArray) (inp : List UInt8) : Option (List ByteArray × List UInt8) :=
  if form = true then (if (inp.dropWhile nameByte).head? = some 58 then some (ns ++ [⟨(inp.takeWhile nameByte).toArray⟩], (inp.dropWhile nameByte).tail) else none) else some (ns, inp)

/-- The kids of a list or a form, up to the byte that ends them. -/
def lp {σ : Type} (rd : List UInt8 → σ → Option (Tr × List UInt8 × σ)) (form : Bool) (e : UInt8) : Nat → List ByteArray → List Tr → List UInt8 → σ → Option (List ByteArray × List Tr × List UInt8 × σ)
  | 0, _, _, _, _ => none
  | f + 1, ns, ks, inp, st =>
    if inp.head? = some e then some (ns, ks, inp.tail, st) else
    match cma ks.length inp with
    | none => none
    | some i1 =>
      match nmr form ns i1 with
      | none => none
      | some (ns', i2) =>
        match rd i2 st with
        | none => none
        | some (t, i3, st') => lp rd form e f ns' (ks ++ [t]) i3 st'

/-- The bytes of a number, and what stands behind them. -/
def numRun (inp : List UInt8) : List UInt8 × List UInt8 := if inp.head? = some 45 then (45 :: inp.tail.takeWhile isDg, inp.tail.dropWhile isDg) else (inp.takeWhile isDg, inp.dropWhile isDg)

open Classical in
/-- The number whose text this is. -/
noncomputable def numOf (l : List UInt8) : Option Int := if h : ∃ n : Int, -999999999 ≤ n ∧ n ≤ 999999999 ∧ Lib.itoa n = l then some h.choose else none

theorem itoa_inj {n m : Int} (hn : -999999999 ≤ n ∧ n ≤ 999999999) (hm : -999999999 ≤ m ∧ m ≤ 999999999) (h : Lib.itoa n = Lib.itoa m) : n = m := by
  have h1 := atoi_itoa n hn.1 hn.2
  have h2 := atoi_itoa m hm.1 hm.2
  rw [h, h2] at h1
  injection h1 with h1
  exact h1.symm
theorem numOf_yes {n : Int} (h0 : -999999999 ≤ n) (h1 : n ≤ 999999999) {l : List UInt8} (hl : Lib.itoa n = l) : numOf l = some n := by
  unfold numOf
  have hex : ∃ n : Int, -999999999 ≤ n ∧ n ≤ 999999999 ∧ Lib.itoa n = l := ⟨n, h0, h1, hl⟩
  rw [dif_pos hex]
  have := hex.choose_spec
  rw [itoa_inj ⟨this.1, this.2.1⟩ ⟨h0, h1⟩ (by rw [this.2.2, hl])]
theorem numOf_some {l : List UInt8} {n : Int} (h : numOf l = some n) : -999999999 ≤ n ∧ n ≤ 999999999 ∧ Lib.itoa n = l := by
  unfold numOf at h
  split at h
  · rename_i hex
    simp only [Option.some.injEq] at h
    rw [← h]; exact hex.choose_spec
  · cases h
theorem numOf_no {l : List UInt8} (h : ∀ n : Int, -999999999 ≤ n → n ≤ 999999999 → Lib.itoa n ≠ l) : numOf l = none := by
  unfold numOf
  rw [dif_neg]
  rintro ⟨n, h0, h1, h2⟩
  exact h n h0 h1 h2

/-- A tree as the program reads it: so many levels left, so many parts ahead. -/
noncomputable def rdT : Nat → List UInt8 → Int → Option (Tr × List UInt8 × Int)
  | 0, _, _ => none
  | d + 1, inp, p =>
    if 120 < p + 1 then none else
    match inp.head? with
    | none => none
    | some c =>
      if isDg c = true ∨ c = 45 then
        match numOf (numRun inp).1 with
        | none => none
        | some n => some (.mk 1 n ByteArray.empty [] [], (numRun inp).2, p + 1)
      else if c = 34 then
        if (inp.tail.dropWhile (· != 34)).head? = some 34 ∧ textOkB ⟨(inp.tail.takeWhile (· != 34)).toArray⟩ = true then
          some (.mk 2 0 ⟨(inp.tail.takeWhile (· != 34)).toArray⟩ [] [], (inp.tail.dropWhile (· != 34)).tail, p + 1) else none
      else if c = 121 ∨ c = 110 then
        if [121, 101, 115].isPrefixOf inp = true then some (.mk 3 1 ByteArray.empty [] [], inp.drop 3, p + 1)
        else if [110, 111].isPrefixOf inp = true then some (.mk 3 0 ByteArray.empty [] [], inp.drop 2, p + 1) else none
      else if c = 91 then
        match lp (rdT d) false 93 (inp.length + 1) [] [] inp.tail (p + 1) with
        | none => none
        | some (_, ks, rest, q) => if ks.length ≤ 20 then some (.mk 4 0 ByteArray.empty [] ks, rest, q) else none
      else if c = 123 then
        match lp (rdT d) true 125 (inp.length + 1) [] [] inp.tail (p + 1) with
        | none => none
        | some (ns, ks, rest, q) => if riseB ns = true then some (.mk 5 0 ByteArray.empty ns ks, rest, q) else none
      else if c = 126 then some (.mk 6 0 ByteArray.empty [] [], inp.tail, p + 1)
      else if c = 63 then
        match rdT d inp.tail (p + 1) with
        | none => none
        | some (t, rest, q) => some (.mk 6 0 ByteArray.empty [] [t], rest, q)
      else none

/-- A number as the specification reads it. -/
def spNum (inp : List UInt8) : Option (Int × List UInt8) :=
  let r := if inp.head? = some 45 then inp.tail else inp
  let ds := (r.take 10).takeWhile isDg
  if ds = [] then none else some (if inp.head? = some 45 then -(dval 0 ds : Int) else dval 0 ds, r.drop ds.length)

/-- A tree as the specification reads it: so many levels left. -/
def spT : Nat → List UInt8 → Unit → Option (Tr × List UInt8 × Unit)
  | 0, _, _ => none
  | d + 1, inp, _ =>
    if inp.head? = some 34 then
      if (inp.tail.dropWhile (· != 34)).head? = some 34 then some (.mk 2 0 ⟨(inp.tail.takeWhile (· != 34)).toArray⟩ [] [], (inp.tail.dropWhile (· != 34)).tail, ()) else none
    else if inp.head? = some 121 then
      if [121, 101, 115].isPrefixOf inp = true then some (.mk 3 1 ByteArray.empty [] [], inp.drop 3, ()) else none
    else if inp.head? = some 110 then
      if [110, 111].isPrefixOf inp = true then some (.mk 3 0 ByteArray.empty [] [], inp.drop 2, ()) else none
    else if inp.head? = some 126 then some (.mk 6 0 ByteArray.empty [] [], inp.tail, ())
    else if inp.head? = some 63 then
      match spT d inp.tail () with
      | none => none
      | some (t, rest, _) => some (.mk 6 0 ByteArray.empty [] [t], rest, ())
    else if inp.head? = some 91 then
      match lp (spT d) false 93 (inp.length + 1) [] [] inp.tail () with
      | none => none
      | some (_, ks, rest, _) => some (.mk 4 0 ByteArray.empty [] ks, rest, ())
    else if inp.head? = some 123 then
      match lp (spT d) true 125 (inp.length + 1) [] [] inp.tail () with
      | none => none
      | some (ns, ks, rest, _) => some (.mk 5 0 ByteArray.empty ns ks, rest, ())
    else
      match spNum inp with
      | none => none
      | some (n, rest) => some (.mk 1 n ByteArray.empty [] [], rest, ())

end Go.Proofs.YtbkagahmiibclaaGreatDoor

/- A tree that is ok is read from its text, by the program and by the specification; what the program reads is a tree that is ok, from its text. No program walked, no conditions. -/

namespace Go.Proofs.YtbkagahmiibclaaGreatDoor
open Go Go.RowKit

theorem toList_loop_len (s : ByteArray) (n : Nat) : ∀ (i : Nat) (r : List UInt8), s.size - i = n → (ByteArray.toList.loop s i r).length = r.length + n := by
  induction n with
  | zero => intro i r h; unfold ByteArray.toList.loop; rw [if_neg (by omega)]; simp
  | succ n ih =>
    intro i r h
    unfold ByteArray.toList.loop
    rw [if_pos (by omega), ih (i + 1) _ (by omega)]
    simp; omega
theorem empty_of_toList {s : ByteArray} (h : s.toList = []) : s = ByteArray.empty := by
  have := toList_loop_len s s.size 0 [] (by omega)
  have e : ByteArray.toList.loop s 0 [] = [] := h
  rw [e] at this
  simp at this
  apply ByteArray.ext
  have hs : s.data.size = 0 := this.symm
  exact Array.eq_empty_of_size_eq_zero hs

theorem mk_eta {t : Tr} {s n : Int} {x : ByteArray} {ns : List ByteArray} {ks : List Tr} (h1 : t.sort = s) (h2 : t.num = n) (h3 : t.text = x) (h4 : t.names = ns) (h5 : t.kids = ks) : t = .mk s n x ns ks := by
  obtain ⟨s', n', x', ns', ks'⟩ := t
  subst h1 h2 h3 h4 h5
  rfl

theorem shapes {t : Tr} (ho : ownB t = true) (hn : newB t = true) :
    (∃ n, t = .mk 1 n ByteArray.empty [] [] ∧ -999999999 ≤ n ∧ n ≤ 999999999) ∨
    (∃ x, t = .mk 2 0 x [] [] ∧ textOkB x = true) ∨
    (∃ n, t = .mk 3 n ByteArray.empty [] [] ∧ (n = 0 ∨ n = 1)) ∨
    (∃ ks, t = .mk 4 0 ByteArray.empty [] ks ∧ ks.length ≤ 20) ∨
    (∃ ns ks, t = .mk 5 0 ByteArray.empty ns ks ∧ ns.length = ks.length ∧ riseB ns = true) ∨
    (∃ ks, t = .mk 6 0 ByteArray.empty [] ks ∧ ks.length ≤ 1) := by
  unfold ownB at ho
  unfold newB at hn
  by_cases h1 : t.sort = 1
  · rw [if_pos h1] at ho hn
    simp only [Bool.and_eq_true, decide_eq_true_eq] at ho hn
    exact Or.inl ⟨t.num, mk_eta h1 rfl (empty_of_toList ho.1.1) ho.1.2 (List.eq_nil_of_length_eq_zero ho.2), hn.1, hn.2⟩
  rw [if_neg h1] at ho hn
  by_cases h2 : t.sort = 2
  · rw [if_pos h2] at ho hn
    simp only [Bool.and_eq_true, decide_eq_true_eq] at ho hn
    exact Or.inr (Or.inl ⟨t.text, mk_eta h2 ho.1.1 rfl ho.1.2 (List.eq_nil_of_length_eq_zero ho.2), hn⟩)
  rw [if_neg h2] at ho hn
  by_cases h3 : t.sort = 3
  · rw [if_pos h3] at ho hn
    simp only [Bool.and_eq_true, decide_eq_true_eq] at ho hn
    exact Or.inr (Or.inr (Or.inl ⟨t.num, mk_eta h3 rfl (empty_of_toList ho.1.1) ho.1.2 (List.eq_nil_of_length_eq_zero ho.2), by omega⟩))
  rw [if_neg h3] at ho hn
  by_cases h4 : t.sort = 4
  · rw [if_pos h4] at ho hn
    simp only [Bool.and_eq_true, decide_eq_true_eq] at ho hn
    exact Or.inr (Or.inr (Or.inr (Or.inl ⟨t.kids, mk_eta h4 ho.1.1 (empty_of_toList ho.1.2) ho.2 rfl, hn⟩)))
  rw [if_neg h4] at ho hn
  by_cases h5 : t.sort = 5
  · rw [if_pos h5] at ho hn
    simp only [Bool.and_eq_true, decide_eq_true_eq] at ho hn
    exact Or.inr (Or.inr (Or.inr (Or.inr (Or.inl ⟨t.names, t.kids, mk_eta h5 ho.1 (empty_of_toList ho.2) rfl rfl, hn.1, hn.2⟩))))
  rw [if_neg h5] at ho hn
  by_cases h6 : t.sort = 6
  · rw [if_pos h6] at ho hn
    simp only [Bool.and_eq_true, decide_eq_true_eq] at ho hn
    exact Or.inr (Or.inr (Or.inr (Or.inr (Or.inr ⟨t.kids, mk_eta h6 ho.1.1 (empty_of_toList ho.1.2) ho.2 rfl, hn⟩))))
  rw [if_neg h6] at ho
  cases ho

/-- How a text of a tree begins. -/
def hd9 (c : UInt8) : Prop := isDg c = true ∨ c = 45 ∨ c = 34 ∨ c = 121 ∨ c = 110 ∨ c = 91 ∨ c = 123 ∨ c = 126 ∨ c = 63

theorem itoa_head (n : Int) : ∃ c r, Lib.itoa n = c :: r ∧ (isDg c = true ∨ c = 45) := by
  rcases itoa_cases n with ⟨_, e⟩ | ⟨_, e⟩
  · obtain ⟨c, r, hcr⟩ : ∃ c r, Lib.decDigits n.toNat = c :: r := List.exists_cons_of_ne_nil (dec_ne _)
    exact ⟨c, r, by rw [e, hcr], Or.inl (dec_all n.toNat c (by rw [hcr]; simp))⟩
  · exact ⟨45, _, e, Or.inr rfl⟩

theorem txT_head {t : Tr} {p l q : Int} (h : wlk t p l = some q) : ∃ c r, txT t = c :: r ∧ hd9 c := by
  rw [wlk_eq] at h
  split at h
  · split at h
    · rename_i ho
      split at h
      · cases h
      · split at h
        · rename_i hn
          rcases shapes ho hn with ⟨n, rfl, _⟩ | ⟨x, rfl, _⟩ | ⟨n, rfl, _⟩ | ⟨ks, rfl, _⟩ | ⟨ns, ks, rfl, _⟩ | ⟨ks, rfl, _⟩
          · obtain ⟨c, r, e, hc⟩ := itoa_head n
            refine ⟨c, r, by rw [txT]; simp [e], ?_⟩
            rcases hc with h | h
            · exact Or.inl h
            · exact Or.inr (Or.inl h)
          · exact ⟨34, x.data.toList ++ [34], by simp [txT], by simp [hd9]⟩
          · by_cases e : n = 1
            · exact ⟨121, [101, 115], by simp [txT, e], by simp [hd9]⟩
            · exact ⟨110, [111], by simp [txT, e], by simp [hd9]⟩
          · exact ⟨91, txK false [] 0 ks ++ [93], by simp [txT], by simp [hd9]⟩
          · exact ⟨123, txK true ns 0 ks ++ [125], by simp [txT], by simp [hd9]⟩
          · by_cases e : ks.length = 0
            · exact ⟨126, [], by simp only [txT]; rw [if_pos e]; simp, by simp [hd9]⟩
            · exact ⟨63, txM ks, by simp only [txT]; rw [if_neg e]; simp, by simp [hd9]⟩
        · cases h
    · cases h
  · cases h

/-- The steps of a state over kids. -/
def foldK {σ : Type} (stp : Tr → σ → Option σ) : List Tr → σ → Option σ
  | [], st => some st
  | t :: r, st => match stp t st with
    | none => none
    | some st1 => foldK stp r st1

theorem foldK_wlk (l : Int) (ks : List Tr) (p : Int) : foldK (fun t p => wlk t p l) ks p = wlkK ks p l := by
  induction ks generalizing p with
  | nil => rw [foldK, wlkK]
  | cons t r ih =>
    rw [foldK, wlkK]
    cases wlk t p l with
    | none => rfl
    | some q => exact ih q

theorem nd_comma (r : List UInt8) : nd (44 :: r) := fun c hc => by simp at hc; subst hc; rfl
theorem nd_end {e : UInt8} (he : e = 93 ∨ e = 125) (r : List UInt8) : nd (e :: r) := fun c hc => by
  simp at hc; subst hc
  rcases he with rfl | rfl <;> rfl

theorem nameOk_bytes {s : ByteArray} (h : nameOkB s = true) : (∀ c, c ∈ s.data.toList → nameByte c = true) ∧ s.data.toList ≠ [] := by
  unfold nameOkB at h
  simp only [Bool.and_eq_true, decide_eq_true_eq] at h
  refine ⟨fun c hc => ?_, fun e => ?_⟩
  · have := h.2
    rw [List.all_eq_true] at this
    exact this c hc
  · have h1 := h.1.1.1
    have : s.data.toList.length = s.size := rfl
    rw [e] at this
    simp at this
    omega

theorem rise_name {ns : List ByteArray} (h : riseB ns = true) (i : Nat) (hi : i < ns.length) : nameOkB ns[i] = true := by
  unfold riseB at h
  rw [List.all_eq_true] at h
  have := h i (List.mem_range.2 hi)
  unfold good at this
  rw [getD_lt _ _ hi, Bool.and_eq_true] at this
  exact this.1

theorem colon_no : nameByte 58 = false := by decide

theorem lp_complete {σ : Type} (rd : List UInt8 → σ → Option (Tr × List UInt8 × σ)) (form : Bool) (e : UInt8) (he : e = 93 ∨ e = 125) (ns : List ByteArray) (hns : form = true → riseB ns = true)
    (stp : Tr → σ → Option σ) (hrd : ∀ t st st' rest, stp t st = some st' → nd rest → rd (txT t ++ rest) st = some (t, rest, st')) (hhd : ∀ t st st', stp t st = some st' → ∃ c r, txT t = c :: r ∧ hd9 c) :
    ∀ (ks : List Tr) (f : Nat) (ks0 : List Tr) (st st' : σ) (rest : List UInt8), ks.length < f → foldK stp ks st = some st' → (form = true → ks0.length + ks.length = ns.length) →
      lp rd form e f (if form = true then ns.take ks0.length else []) ks0 (txK form ns ks0.length ks ++ e :: rest) st = some (if form = true then ns else [], ks0 ++ ks, rest, st') := by
  intro ks
  induction ks with
  | nil =>
    intro f ks0 st st' rest hf hfold hl
    obtain ⟨f, rfl⟩ : ∃ f', f = f' + 1 := ⟨f - 1, by simp at hf; omega⟩
    rw [lp, txK]
    simp only [List.nil_append, List.head?_cons, if_true, List.tail_cons, List.append_nil]
    rw [foldK] at hfold
    simp only [Option.some.injEq] at hfold
    subst hfold
    cases form with
    | false => simp
    | true =>
      have := hl rfl
      simp only [List.length_nil, Nat.add_zero] at this
      rw [this]; simp
  | cons t r ih =>
    intro f ks0 st st' rest hf hfold hl
    obtain ⟨f, rfl⟩ : ∃ f', f = f' + 1 := ⟨f - 1, by simp at hf; omega⟩
    rw [foldK] at hfold
    cases hst : stp t st with
    | none => rw [hst] at hfold; cases hfold
    | some st1 =>
      rw [hst] at hfold
      simp only at hfold
      obtain ⟨c, r', htx, hc⟩ := hhd t st st1 hst
      -- the bytes behind the comma
      have hrest : nd (txK form ns (ks0.length + 1) r ++ e :: rest) := by
        cases r with
        | nil => rw [txK]; exact nd_end he rest
        | cons t2 r2 => rw [txK, ahead, if_pos (by omega)]; simp only [List.cons_append, List.append_assoc, List.nil_append]; exact nd_comma _
      have hih := ih f (ks0 ++ [t]) st1 st' rest (by simp at hf; omega) hfold (fun hfm => by have := hl hfm; simp at this ⊢; omega)
      have hlen : (ks0 ++ [t]).length = ks0.length + 1 := by simp
      rw [hlen] at hih
      have hrd1 := hrd t st st1 _ hst hrest
      -- behind the comma: the name
      have hname : nmr form (if form = true then ns.take ks0.length else []) ((if form = true then (ns.getD ks0.length ByteArray.empty).data.toList ++ [58] else []) ++ (txT t ++ (txK form ns (ks0.length + 1) r ++ e :: rest))) = some (if form = true then ns.take (ks0.length + 1) else [], txT t ++ (txK form ns (ks0.length + 1) r ++ e :: rest)) := by
        unfold nmr
        cases form with
        | false => simp
        | true =>
          have hlt : ks0.length < ns.length := by have := hl rfl; simp at this; omega
          have hnm := nameOk_bytes (rise_name (hns rfl) _ hlt)
          simp only [if_true]
          rw [getD_lt _ _ hlt]
          have htw := tw_append (p := nameByte) (l := ns[ks0.length].data.toList) (rest := [58] ++ (txT t ++ (txK true ns (ks0.length + 1) r ++ e :: rest))) hnm.1 (fun c hc => by simp at hc; subst hc; exact colon_no)
          rw [List.append_assoc, htw.1, htw.2]
          simp only [List.cons_append, List.nil_append, List.head?_cons, if_true, List.tail_cons]
          rw [List.take_succ_eq_append_getElem hlt]
      have hfirst : ∀ x _y : List UInt8, ((if form = true then (ns.getD ks0.length ByteArray.empty).data.toList ++ [58] else []) ++ (txT t ++ x)).head? ≠ some e := by
        intro x _
        cases form with
        | false =>
          simp only [Bool.false_eq_true, if_false, List.nil_append, htx, List.cons_append, List.head?_cons]
          intro h
          simp only [Option.some.injEq] at h
          subst h
          rcases he with rfl | rfl <;> (unfold hd9 at hc; revert hc; decide)
        | true =>
          have hlt : ks0.length < ns.length := by have := hl rfl; simp at this; omega
          have hnm := nameOk_bytes (rise_name (hns rfl) _ hlt)
          simp only [if_true]
          rw [getD_lt _ _ hlt]
          obtain ⟨a, b, hab⟩ := List.exists_cons_of_ne_nil hnm.2
          rw [hab]
          simp only [List.cons_append, List.head?_cons]
          intro h
          simp only [Option.some.injEq] at h
          have := hnm.1 a (by rw [hab]; simp)
          subst h
          rcases he with rfl | rfl <;> (revert this; decide)
      rw [lp, txK, ahead]
      generalize hB : (if form = true then (ns.getD ks0.length ByteArray.empty).data.toList ++ [58] else []) = B at *
      have hf1 := hfirst (txK form ns (ks0.length + 1) r ++ e :: rest) []
      have hgo : ∀ inp, inp = B ++ (txT t ++ (txK form ns (ks0.length + 1) r ++ e :: rest)) → (match nmr form (if form = true then ns.take ks0.length else []) inp with
          | none => none
          | some (ns', i2) => match rd i2 st with
            | none => none
            | some (t, i3, st') => lp rd form e f ns' (ks0 ++ [t]) i3 st') = some (if form = true then ns else [], ks0 ++ t :: r, rest, st') := by
        intro inp hinp
        rw [hinp, hname]
        simp only
        rw [hrd1]
        simp only
        rw [hih]
        simp
      by_cases h0 : ks0.length = 0
      · have e1 : ((if 0 < ks0.length then [44] else []) ++ B ++ txT t ++ txK form ns (ks0.length + 1) r ++ e :: rest) = B ++ (txT t ++ (txK form ns (ks0.length + 1) r ++ e :: rest)) := by
          rw [if_neg (by omega)]; simp only [List.nil_append, List.append_assoc]
        rw [e1, if_neg hf1, show cma ks0.length (B ++ (txT t ++ (txK form ns (ks0.length + 1) r ++ e :: rest))) = some (B ++ (txT t ++ (txK form ns (ks0.length + 1) r ++ e :: rest))) from by unfold cma; rw [if_pos h0]]
        exact hgo _ rfl
      · have e1 : ((if 0 < ks0.length then [44] else []) ++ B ++ txT t ++ txK form ns (ks0.length + 1) r ++ e :: rest) = 44 :: (B ++ (txT t ++ (txK form ns (ks0.length + 1) r ++ e :: rest))) := by
          rw [if_pos (by omega)]; simp only [List.cons_append, List.nil_append, List.append_assoc]
        rw [e1, if_neg (by simp only [List.head?_cons, Option.some.injEq]; rcases he with rfl | rfl <;> decide), show cma ks0.length (44 :: (B ++ (txT t ++ (txK form ns (ks0.length + 1) r ++ e :: rest)))) = some (B ++ (txT t ++ (txK form ns (ks0.length + 1) r ++ e :: rest))) from by unfold cma; rw [if_neg h0]; simp]
        exact hgo _ rfl
end Go.Proofs.YtbkagahmiibclaaGreatDoor

/- The program and the specification read the same: each just the text of a tree that is ok, and that tree. No program walked, no conditions. -/

namespace Go.Proofs.YtbkagahmiibclaaGreatDoor
open Go Go.RowKit

theorem textOk_bytes {x : ByteArray} (h : textOkB x = true) : ∀ c, c ∈ x.data.toList → (c != 34) = true := by
  unfold textOkB at h
  simp only [Bool.and_eq_true, decide_eq_true_eq] at h
  intro c hc
  have := h.2
  rw [List.all_eq_true] at this
  have := this c hc
  unfold textByte at this
  simp only [Bool.and_eq_true] at this
  have h3 := this.2
  simp only [bne_iff_ne, ne_eq] at h3 ⊢
  intro e; subst e; exact h3 rfl

theorem text_run {x : ByteArray} (h : textOkB x = true) (rest : List UInt8) :
    (x.data.toList ++ 34 :: rest).takeWhile (· != 34) = x.data.toList ∧ (x.data.toList ++ 34 :: rest).dropWhile (· != 34) = 34 :: rest :=
  tw_append (textOk_bytes h) (fun c hc => by simp at hc; subst hc; rfl)

theorem num_run (n : Int) (rest : List UInt8) (hr : nd rest) : numRun (Lib.itoa n ++ rest) = (Lib.itoa n, rest) := by
  unfold numRun
  rcases itoa_cases n with ⟨_, e⟩ | ⟨_, e⟩
  · have h := tw_append (p := isDg) (dec_all n.toNat) hr
    rw [e, if_neg, h.1, h.2]
    obtain ⟨c, r, hcr⟩ : ∃ c r, Lib.decDigits n.toNat = c :: r := List.exists_cons_of_ne_nil (dec_ne _)
    have hc := dec_all n.toNat c (by rw [hcr]; simp)
    rw [hcr]
    simp only [List.cons_append, List.head?_cons, Option.some.injEq]
    intro e2; subst e2; revert hc; decide
  · have h := tw_append (p := isDg) (dec_all n.natAbs) hr
    rw [e]
    simp only [List.cons_append, List.head?_cons, if_true, List.tail_cons]
    rw [h.1, h.2]

theorem wlk_open {t : Tr} {p l q : Int} (h : wlk t p l = some q) : p + 1 ≤ 120 ∧ l + 1 ≤ 6 ∧ ownB t = true ∧ newB t = true ∧ wlkK t.kids (p + 1) (l + 1) = some q := by
  rw [wlk_eq] at h
  split at h
  · rename_i h0
    split at h
    · rename_i ho
      split at h
      · cases h
      · rename_i q' hk
        split at h
        · rename_i hn
          simp only [Option.some.injEq] at h
          subst h
          exact ⟨h0.1, h0.2, ho, hn, hk⟩
        · cases h
    · cases h
  · cases h

theorem wlk_make {t : Tr} {p l q : Int} (h1 : p + 1 ≤ 120) (h2 : l + 1 ≤ 6) (ho : ownB t = true) (hn : newB t = true) (hk : wlkK t.kids (p + 1) (l + 1) = some q) : wlk t p l = some q := by
  rw [wlk_eq, if_pos ⟨h1, h2⟩, if_pos ho, hk]
  simp only
  rw [if_pos hn]

theorem wlkK_head {ks : List Tr} {p l q : Int} (h : wlkK ks p l = some q) {t : Tr} (ht : t ∈ ks) : ∃ c r, txT t = c :: r ∧ hd9 c := by
  induction ks generalizing p with
  | nil => cases ht
  | cons a r ih =>
    rw [wlkK] at h
    cases hw : wlk a p l with
    | none => rw [hw] at h; cases h
    | some q1 =>
      rw [hw] at h
      rcases List.mem_cons.1 ht with rfl | ht
      · exact txT_head hw
      · exact ih h ht

theorem txK_len_ge (form : Bool) (ns : List ByteArray) (ks : List Tr) (i : Nat) (h : ∀ t, t ∈ ks → ∃ c r, txT t = c :: r ∧ hd9 c) : ks.length ≤ (txK form ns i ks).length := by
  induction ks generalizing i with
  | nil => simp
  | cons t r ih =>
    rw [txK]
    obtain ⟨c, r', e, _⟩ := h t (by simp)
    have := ih (i + 1) (fun t ht => h t (by simp [ht]))
    rw [e]
    simp only [List.length_cons, List.length_append]
    omega

theorem rdT_complete : ∀ (d : Nat) (t : Tr) (p q : Int) (rest : List UInt8), wlk t p (6 - d) = some q → nd rest → rdT d (txT t ++ rest) p = some (t, rest, q) := by
  intro d
  induction d with
  | zero =>
    intro t p q rest h _
    have := (wlk_open h).2.1
    simp at this
  | succ d ih =>
    intro t p q rest h hr
    obtain ⟨h1, h2, ho, hn, hk⟩ := wlk_open h
    have hl : (6 : Int) - ((d + 1 : Nat) : Int) + 1 = 6 - d := by omega
    rw [hl] at hk
    rw [rdT, if_neg (by omega)]
    rcases shapes ho hn with ⟨n, rfl, hn1, hn2⟩ | ⟨x, rfl, hx⟩ | ⟨n, rfl, hn1⟩ | ⟨ks, rfl, hks⟩ | ⟨ns, ks, rfl, hnl, hrs⟩ | ⟨ks, rfl, hks⟩
    · simp only [Tr.kids, wlkK, Option.some.injEq] at hk
      obtain ⟨c, r, e, hc⟩ := itoa_head n
      have htx : txT (.mk 1 n ByteArray.empty [] []) = Lib.itoa n := by rw [txT]; simp
      rw [htx, num_run n rest hr, numOf_yes hn1 hn2 rfl]
      rw [e]
      simp only [List.cons_append, List.head?_cons]
      rw [if_pos hc, hk]
    · simp only [Tr.kids, wlkK, Option.some.injEq] at hk
      have htx : txT (.mk 2 0 x [] []) ++ rest = 34 :: (x.data.toList ++ 34 :: rest) := by rw [txT]; simp
      have hrun : ((34 :: (x.data.toList ++ 34 :: rest)).tail).takeWhile (· != 34) = x.data.toList ∧ ((34 :: (x.data.toList ++ 34 :: rest)).tail).dropWhile (· != 34) = 34 :: rest := text_run hx rest
      rw [htx]
      simp only [List.head?_cons]
      rw [if_neg (by decide), if_pos (by decide), if_pos ⟨by rw [hrun.2]; rfl, by rw [hrun.1]; exact hx⟩, hrun.1, hrun.2, hk]
      rfl
    · simp only [Tr.kids, wlkK, Option.some.injEq] at hk
      rcases hn1 with rfl | rfl
      · have htx : txT (.mk 3 0 ByteArray.empty [] []) ++ rest = 110 :: 111 :: rest := by rw [txT]; simp
        rw [htx]
        simp only [List.head?_cons]
        rw [if_neg (by decide), if_neg (by decide), if_pos (by decide), if_neg (by simp), if_pos (by simp), hk]
        rfl
      · have htx : txT (.mk 3 1 ByteArray.empty [] []) ++ rest = 121 :: 101 :: 115 :: rest := by rw [txT]; simp
        rw [htx]
        simp only [List.head?_cons]
        rw [if_neg (by decide), if_neg (by decide), if_pos (by decide), if_pos (by simp), hk]
        rfl
    · simp only [Tr.kids] at hk
      have htx : txT (.mk 4 0 ByteArray.empty [] ks) ++ rest = 91 :: (txK false [] 0 ks ++ 93 :: rest) := by rw [txT]; simp
      have hlp := lp_complete (rdT d) false 93 (Or.inl rfl) [] (fun h => by cases h) (fun t p => wlk t p (6 - d)) (fun t st st' rest h hr => ih t st st' rest h hr) (fun t st st' h => txT_head h) ks ((txT (.mk 4 0 ByteArray.empty [] ks) ++ rest).length + 1) [] (p + 1) q rest (by rw [htx]; have := txK_len_ge false [] ks 0 (fun t ht => wlkK_head hk ht); simp; omega) (by rw [foldK_wlk]; exact hk) (fun h => by cases h)
      rw [htx] at hlp ⊢
      simp only [List.head?_cons, List.tail_cons]
      rw [if_neg (by decide), if_neg (by decide), if_neg (by decide), if_pos (by decide)]
      simp only [List.length_nil, Bool.false_eq_true, if_false] at hlp
      rw [hlp]
      simp only [List.nil_append]
      rw [if_pos hks]
    · simp only [Tr.kids] at hk
      have htx : txT (.mk 5 0 ByteArray.empty ns ks) ++ rest = 123 :: (txK true ns 0 ks ++ 125 :: rest) := by rw [txT]; simp
      have hlp := lp_complete (rdT d) true 125 (Or.inr rfl) ns (fun _ => hrs) (fun t p => wlk t p (6 - d)) (fun t st st' rest h hr => ih t st st' rest h hr) (fun t st st' h => txT_head h) ks ((txT (.mk 5 0 ByteArray.empty ns ks) ++ rest).length + 1) [] (p + 1) q rest (by rw [htx]; have := txK_len_ge true ns ks 0 (fun t ht => wlkK_head hk ht); simp; omega) (by rw [foldK_wlk]; exact hk) (fun _ => by simp [hnl])
      rw [htx] at hlp ⊢
      simp only [List.head?_cons, List.tail_cons]
      rw [if_neg (by decide), if_neg (by decide), if_neg (by decide), if_neg (by decide), if_pos (by decide)]
      simp only [List.length_nil, if_true, List.take_zero] at hlp
      rw [hlp]
      simp only [List.nil_append]
      rw [if_pos hrs]
    · simp only [Tr.kids] at hk
      cases ks with
      | nil =>
        simp only [wlkK, Option.some.injEq] at hk
        have htx : txT (.mk 6 0 ByteArray.empty [] []) ++ rest = 126 :: rest := by rw [txT]; simp
        rw [htx]
        simp only [List.head?_cons, List.tail_cons]
        rw [if_neg (by decide), if_neg (by decide), if_neg (by decide), if_neg (by decide), if_neg (by decide), if_pos (by decide), hk]
      | cons t r =>
        have hr0 : r = [] := by simp at hks; exact hks
        subst hr0
        have htx : txT (.mk 6 0 ByteArray.empty [] [t]) ++ rest = 63 :: (txT t ++ rest) := by rw [txT]; simp [txM]
        rw [wlkK] at hk
        cases hw : wlk t (p + 1) (6 - d) with
        | none => rw [hw] at hk; cases hk
        | some q1 =>
          rw [hw] at hk
          simp only [wlkK, Option.some.injEq] at hk
          subst hk
          rw [htx]
          simp only [List.head?_cons, List.tail_cons]
          rw [if_neg (by decide), if_neg (by decide), if_neg (by decide), if_neg (by decide), if_neg (by decide), if_neg (by decide), if_pos (by decide), ih t (p + 1) q1 rest hw hr]

end Go.Proofs.YtbkagahmiibclaaGreatDoor
