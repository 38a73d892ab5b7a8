/- Both readers of schemas as one function on lists of bytes (so many levels left), and that both answer the same: the program's, whose levels the text alone bounds, and the specification's, which looks at six and writes again what it read. No program, no conditions. -/
import Derived.Test.YthkjhmcbmakkdaaDoorPart11
namespace Go.Proofs.YthkjhmcbmakkdaaDoor
open Go Go.RowKit

/-- A comma, where something stands ahead. -/
def kcma (n : Nat) (inp : List UInt8) : Option (List UInt8) := if n = 0 then some inp else if inp.head? = some 44 then some inp.tail else none
/-- A name and the colon behind it. -/
def knam (inp : List UInt8) : Option (ByteArray × List UInt8) := if (inp.dropWhile nameByte).head? = some 58 then some (⟨(inp.takeWhile nameByte).toArray⟩, (inp.dropWhile nameByte).tail) else none

/-- The fields of a form, up to the byte that ends them. -/
def klp (rd : List UInt8 → Option (Kd × List UInt8)) : Nat → List ByteArray → List Kd → List UInt8 → Option (List ByteArray × List Kd × List UInt8)
  | 0, _, _, _ => none
  | f + 1, ns, ks, inp =>
    if inp.head? = some 125 then some (ns, ks, inp.tail) else
    match kcma ks.length inp with
    | none => none
    | some i1 =>
      match knam i1 with
      | none => none
      | some (nm, i2) =>
        match rd i2 with
        | none => none
        | some (t, i3) => klp rd f (ns ++ [nm]) (ks ++ [t]) i3

/-- A schema, so many levels left. -/
def krd : Nat → List UInt8 → Option (Kd × List UInt8)
  | 0, _ => none
  | d + 1, inp =>
    if [110, 117, 109].isPrefixOf inp = true then some (.mk 1 [] [], inp.drop 3)
    else if [116, 101, 120, 116].isPrefixOf inp = true then some (.mk 2 [] [], inp.drop 4)
    else if [102, 108, 97, 103].isPrefixOf inp = true then some (.mk 3 [] [], inp.drop 4)
    else if inp.head? = some 91 then
      match krd d inp.tail with
      | none => none
      | some (k, rest) => if rest.head? = some 93 then some (.mk 4 [] [k], rest.tail) else none
    else if inp.head? = some 63 then
      match krd d inp.tail with
      | none => none
      | some (k, rest) => some (.mk 6 [] [k], rest)
    else if inp.head? = some 123 then
      match klp (krd d) (inp.length + 1) [] [] inp.tail with
      | none => none
      | some (ns, ks, rest) => some (.mk 5 ns ks, rest)
    else none

theorem khead {l : List UInt8} {c : UInt8} (h : l.head? = some c) : l = c :: l.tail := by
  cases l with
  | nil => simp at h
  | cons a r => simp at h; simp [h]
theorem kpre {p l : List UInt8} (h : p.isPrefixOf l = true) : l = p ++ l.drop p.length := by
  rw [List.isPrefixOf_iff_prefix] at h
  obtain ⟨r, rfl⟩ := h
  simp
theorem kcma_some {n : Nat} {inp i1 : List UInt8} (h : kcma n inp = some i1) : inp = (if 0 < n then [44] else []) ++ i1 := by
  unfold kcma at h
  split at h
  · rename_i h0
    cases h
    rw [if_neg (by omega)]; rfl
  · split at h
    · rename_i h0 h1
      cases h
      rw [if_pos (by omega)]
      exact khead h1
    · cases h
theorem knam_some {inp i2 : List UInt8} {nm : ByteArray} (h : knam inp = some (nm, i2)) : inp = nm.data.toList ++ [58] ++ i2 := by
  unfold knam at h
  split at h
  · rename_i h1
    cases h
    have e := khead h1
    have : inp = inp.takeWhile nameByte ++ inp.dropWhile nameByte := (List.takeWhile_append_dropWhile).symm
    rw [e] at this
    simpa using this
  · cases h

theorem kx4 (k : Kd) : kxT (.mk 4 [] [k]) = [91] ++ kxT k ++ [93] := by rw [kxT]; simp [kxM]
theorem kx6 (k : Kd) : kxT (.mk 6 [] [k]) = [63] ++ kxT k := by rw [kxT]; simp [kxM]
theorem kx5 (ns : List ByteArray) (ks : List Kd) : kxT (.mk 5 ns ks) = [123] ++ kxK ns 0 ks ++ [125] := by rw [kxT]; simp
theorem kx1 : kxT (.mk 1 [] []) = [110, 117, 109] := by rw [kxT]; rfl
theorem kx2 : kxT (.mk 2 [] []) = [116, 101, 120, 116] := by rw [kxT]; rfl
theorem kx3 : kxT (.mk 3 [] []) = [102, 108, 97, 103] := by rw [kxT]; rfl

theorem getD_mid (ns : List ByteArray) (nm : ByteArray) (r : List ByteArray) : (ns ++ [nm] ++ r).getD ns.length ByteArray.empty = nm := by
  rw [List.getD_eq_getElem?_getD]
  simp

/-- What is read stands there, and no more than that. -/
theorem klp_sound (rd : List UInt8 → Option (Kd × List UInt8)) (hrd : ∀ i k r, rd i = some (k, r) → i = kxT k ++ r) :
    ∀ (f : Nat) (ns : List ByteArray) (ks : List Kd) (inp : List UInt8) (ns' : List ByteArray) (ks' : List Kd) (rest : List UInt8), ns.length = ks.length → klp rd f ns ks inp = some (ns', ks', rest) →
      ∃ nsx ksx, ns' = ns ++ nsx ∧ ks' = ks ++ ksx ∧ nsx.length = ksx.length ∧ inp = kxK ns' ks.length ksx ++ ([125] ++ rest)
  | 0, ns, ks, inp, ns', ks', rest => by intro _ h; rw [klp] at h; cases h
  | f + 1, ns, ks, inp, ns', ks', rest => by
    intro hl h
    rw [klp] at h
    split at h
    · rename_i h1
      cases h
      exact ⟨[], [], by simp, by simp, rfl, by rw [kxK]; simpa using khead h1⟩
    · split at h
      · cases h
      · rename_i i1 hc
        split at h
        · cases h
        · rename_i nm i2 hn
          split at h
          · cases h
          · rename_i t i3 hr
            obtain ⟨nsx, ksx, e1, e2, e3, e4⟩ := klp_sound rd hrd f _ _ _ _ _ _ (by simp [hl]) h
            refine ⟨nm :: nsx, t :: ksx, by rw [e1]; simp, by rw [e2]; simp, by simp [e3], ?_⟩
            rw [kcma_some hc, knam_some hn, hrd _ _ _ hr, e4, kxK, kAhead]
            have hg : ns'.getD ks.length ByteArray.empty = nm := by rw [e1, ← hl]; exact getD_mid _ _ _
            rw [hg]
            simp

theorem krd_sound : ∀ (d : Nat) (inp : List UInt8) (k : Kd) (rest : List UInt8), krd d inp = some (k, rest) → inp = kxT k ++ rest
  | 0, inp, k, rest => by intro h; rw [krd] at h; cases h
  | d + 1, inp, k, rest => by
    intro h
    rw [krd] at h
    split at h
    · rename_i h1
      cases h
      rw [kx1]; exact kpre h1
    · split at h
      · rename_i h1
        cases h
        rw [kx2]; exact kpre h1
      · split at h
        · rename_i h1
          cases h
          rw [kx3]; exact kpre h1
        · split at h
          · rename_i h1
            split at h
            · cases h
            · rename_i k' r' hk
              split at h
              · rename_i h2
                cases h
                have e := krd_sound d _ _ _ hk
                have e2 := khead h2
                have e1 := khead h1
                rw [e, e2] at e1
                rw [kx4, e1]; simp
              · cases h
          · split at h
            · rename_i h1
              split at h
              · cases h
              · rename_i k' r' hk
                cases h
                have e := krd_sound d _ _ _ hk
                have e1 := khead h1
                rw [e] at e1
                rw [kx6, e1]; simp
            · split at h
              · rename_i h1
                split at h
                · cases h
                · rename_i ns ks r' hk
                  cases h
                  obtain ⟨nsx, ksx, e1, e2, e3, e4⟩ := klp_sound (krd d) (krd_sound d) _ _ _ _ _ _ _ rfl hk
                  simp only [List.nil_append] at e1 e2
                  subst e1 e2
                  have e1 := khead h1
                  rw [e4] at e1
                  rw [kx5, e1]; simp
              · cases h

/-- At most so many levels. -/
def levB : Nat → Kd → Bool
  | 0, _ => false
  | d + 1, k => k.kids.all (levB d)

theorem ktw {l rest : List UInt8} (hl : l.all nameByte = true) (hr : ∀ c, rest.head? = some c → nameByte c = false) : (l ++ rest).takeWhile nameByte = l ∧ (l ++ rest).dropWhile nameByte = rest := by
  induction l with
  | nil =>
    cases rest with
    | nil => simp
    | cons c r => have := hr c rfl; simp [this]
  | cons c l ih =>
    rw [List.all_cons, Bool.and_eq_true] at hl
    have := ih hl.2
    simp [hl.1, this.1, this.2]

theorem knam_yes {nm : ByteArray} (h : nameOkB nm = true) (rest : List UInt8) : knam (nm.data.toList ++ [58] ++ rest) = some (nm, rest) := by
  unfold nameOkB at h
  simp only [Bool.and_eq_true] at h
  have := ktw (l := nm.data.toList) (rest := [58] ++ rest) h.2 (fun c hc => by simp at hc; subst hc; decide)
  unfold knam
  rw [List.append_assoc, this.1, this.2, if_pos (by simp)]
  simp

theorem name_head {nm : ByteArray} (h : nameOkB nm = true) (r : List UInt8) : (nm.data.toList ++ r).head? ≠ some 125 := by
  unfold nameOkB at h
  simp only [Bool.and_eq_true] at h
  intro he
  cases hd : nm.data.toList with
  | nil =>
    have : nm.size = 0 := by have := congrArg List.length hd; simpa using this
    simp [this] at h
  | cons c t =>
    rw [hd] at he
    simp at he
    have := h.2
    rw [hd, List.all_cons, Bool.and_eq_true] at this
    rw [he] at this
    exact absurd this.1 (by decide)

theorem klp_yes (rd : List UInt8 → Option (Kd × List UInt8)) (NS : List ByteArray) (hNS : ∀ i, i < NS.length → nameOkB (NS.getD i ByteArray.empty) = true) (rest : List UInt8) :
    ∀ (ksx : List Kd) (f : Nat) (ks : List Kd), ksx.length < f → ks.length + ksx.length = NS.length → (∀ k ∈ ksx, ∀ r, rd (kxT k ++ r) = some (k, r)) →
      klp rd f (NS.take ks.length) ks (kxK NS ks.length ksx ++ ([125] ++ rest)) = some (NS, ks ++ ksx, rest)
  | [], f, ks => by
    intro hf hl _
    obtain ⟨f, rfl⟩ : ∃ g, f = g + 1 := ⟨f - 1, by simp at hf; omega⟩
    rw [klp, kxK, if_pos (by simp)]
    simp only [List.length_nil, Nat.add_zero] at hl
    rw [hl, List.take_length]
    simp
  | t :: r, f, ks => by
    intro hf hl hrd
    simp only [List.length_cons] at hf hl
    obtain ⟨f, rfl⟩ : ∃ g, f = g + 1 := ⟨f - 1, by omega⟩
    have hlt : ks.length < NS.length := by omega
    have hok := hNS ks.length hlt
    have hg : NS.getD ks.length ByteArray.empty = NS[ks.length] := by rw [List.getD_eq_getElem?_getD, List.getElem?_eq_getElem hlt]; rfl
    rw [klp, kxK]
    have hnot : ¬ (kAhead NS ks.length ++ kxT t ++ kxK NS (ks.length + 1) r ++ ([125] ++ rest)).head? = some 125 := by
      unfold kAhead
      by_cases h0 : 0 < ks.length
      · rw [if_pos h0]; simp
      · rw [if_neg h0]
        simp only [List.nil_append, List.append_assoc]
        exact name_head hok _
    rw [if_neg hnot]
    have hcm : kcma ks.length (kAhead NS ks.length ++ kxT t ++ kxK NS (ks.length + 1) r ++ ([125] ++ rest)) = some ((NS.getD ks.length ByteArray.empty).data.toList ++ [58] ++ (kxT t ++ (kxK NS (ks.length + 1) r ++ ([125] ++ rest)))) := by
      unfold kcma kAhead
      by_cases h0 : 0 < ks.length
      · rw [if_neg (by omega), if_pos h0, if_pos (by simp)]; simp
      · rw [if_pos (by omega), if_neg h0]; simp
    rw [hcm]
    simp only
    rw [knam_yes hok]
    simp only
    rw [hrd t (by simp)]
    simp only
    have hih := klp_yes rd NS hNS rest r f (ks ++ [t]) (by omega) (by simp; omega) (fun k hk => hrd k (by simp [hk]))
    simp only [List.length_append, List.length_cons, List.length_nil, Nat.zero_add] at hih
    rw [List.take_succ_eq_append_getElem hlt, ← hg] at hih
    rw [hih]
    simp

theorem kxK_ge (ns : List ByteArray) : ∀ (ks : List Kd) (i : Nat), ks.length ≤ (kxK ns i ks).length
  | [], i => by simp
  | t :: r, i => by
    have := kxK_ge ns r (i + 1)
    rw [kxK, kAhead]
    simp only [List.length_append, List.length_cons, List.length_nil]
    omega

theorem rise_names {ns : List ByteArray} (h : riseB ns = true) (i : Nat) (hi : i < ns.length) : nameOkB (ns.getD i ByteArray.empty) = true := by
  cases hn : nameOkB ns[i]
  · rw [rise_no hi (good_name hi hn)] at h; cases h
  · rw [List.getD_eq_getElem?_getD, List.getElem?_eq_getElem hi]; exact hn

theorem krd_yes : ∀ (d : Nat) (k : Kd) (rest : List UInt8), okD k = true → levB d k = true → krd d (kxT k ++ rest) = some (k, rest)
  | 0, k, rest => by intro _ h; rw [levB] at h; cases h
  | d + 1, .mk s ns ks, rest => by
    intro hok hlev
    rw [okD, Bool.and_eq_true] at hok
    rw [levB, List.all_eq_true] at hlev
    have hkid : ∀ k ∈ ks, ∀ r, krd d (kxT k ++ r) = some (k, r) := fun k hk r => by
      obtain ⟨i, hi, rfl⟩ := List.getElem_of_mem hk
      exact krd_yes d _ r (okDs_get hok.2 i hi) (hlev _ hk)
    rw [krd]
    rcases shB_cases hok.1 with ⟨h1, h2, h3⟩ | ⟨h1, h2, h3⟩ | ⟨h1, h2, h3⟩
    · have e1 : ks = [] := List.eq_nil_of_length_eq_zero h2
      have e2 : ns = [] := List.eq_nil_of_length_eq_zero h3
      subst e1 e2
      simp only [Kd.sort] at h1
      rcases h1 with h1 | h1 | h1 <;> subst h1
      · rw [kx1]; simp [List.isPrefixOf]
      · rw [kx2]; simp [List.isPrefixOf]
      · rw [kx3]; simp [List.isPrefixOf]
    · have e2 : ns = [] := List.eq_nil_of_length_eq_zero h3
      obtain ⟨k, rfl⟩ : ∃ k, ks = [k] := by
        have h2' : ks.length = 1 := h2
        match ks, h2' with
        | [k], _ => exact ⟨k, rfl⟩
      subst e2
      simp only [Kd.sort] at h1
      have := hkid k (by simp)
      rcases h1 with h1 | h1 <;> subst h1
      · rw [kx4]; simp [List.isPrefixOf, this]
      · rw [kx6]; simp [List.isPrefixOf, this]
    · simp only [Kd.sort, Kd.kids, Kd.names] at h1 h2 h3
      subst h1
      have hge := kxK_ge ns ks 0
      have hy := klp_yes (krd d) ns (rise_names h3) rest ks (([123] ++ kxK ns 0 ks ++ [125] ++ rest).length + 1) [] (by simp; omega) (by simp [h2]) hkid
      rw [kx5]
      simp only [List.length_nil, List.take_zero, List.nil_append] at hy
      have hh : ([123] ++ kxK ns 0 ks ++ [125] ++ rest).head? = some 123 := by simp
      have ht : ([123] ++ kxK ns 0 ks ++ [125] ++ rest).tail = kxK ns 0 ks ++ ([125] ++ rest) := by simp
      generalize hL : [123] ++ kxK ns 0 ks ++ [125] ++ rest = L at *
      have p1 : ∀ (c : UInt8) (p : List UInt8), c ≠ 123 → (c :: p).isPrefixOf L = false := fun c p hc => by
        cases L with
        | nil => simp at hh
        | cons a r => simp at hh; subst hh; simp [List.isPrefixOf, hc]
      rw [p1 110 _ (by decide), p1 116 _ (by decide), p1 102 _ (by decide), hh, ht, hy]
      simp

mutual
theorem lev_pord : ∀ (t : Kd) (d : Nat), d ≤ 6 → (pord t (7 - d)).all gdB = true → levB d t = true
  | .mk s ns ks, 0 => by
    intro _ h
    rw [pord, List.all_cons, Bool.and_eq_true, gdB, Bool.and_eq_true, decide_eq_true_eq] at h
    have := h.1.1
    simp at this
  | .mk s ns ks, d + 1 => by
    intro hd h
    rw [pord, List.all_cons, Bool.and_eq_true] at h
    rw [levB]
    have e : (7 : Int) - ((d + 1 : Nat) : Int) + 1 = 7 - (d : Int) := by omega
    rw [e] at h
    exact levs_pord ks d (by omega) h.2
theorem levs_pord : ∀ (ks : List Kd) (d : Nat), d ≤ 6 → (pordK ks (7 - d)).all gdB = true → ks.all (levB d) = true
  | [], d => by intro _ _; rfl
  | t :: r, d => by
    intro hd h
    rw [pordK, List.all_append, Bool.and_eq_true] at h
    rw [List.all_cons, lev_pord t d hd h.1, levs_pord r d hd h.2]; rfl
end
theorem lev_of_qT {t : Kd} (h : 0 < qT t 1) : levB 6 t = true := by
  have h' : decide (0 < qT t 1) = true := decide_eq_true h
  rw [qT_start, Bool.and_eq_true] at h'
  exact lev_pord t 6 (by omega) (by simpa using h'.1)
theorem levB_mono : ∀ (d : Nat) (t : Kd), levB d t = true → levB (d + 1) t = true
  | 0, t => by intro h; rw [levB] at h; cases h
  | d + 1, t => by
    intro h
    rw [levB, List.all_eq_true] at h ⊢
    exact fun k hk => levB_mono d k (h k hk)
theorem levB_le {d e : Nat} {t : Kd} (h : levB d t = true) (hde : d ≤ e) : levB e t = true := by
  induction e with
  | zero => obtain rfl : d = 0 := by omega
            exact h
  | succ e ih =>
    by_cases he : d = e + 1
    · subst he; exact h
    · exact levB_mono e t (ih (by omega))

/-- What the program answers to a text. -/
def progK (L : List UInt8) : Option Kd :=
  if 800 < L.length then none else
  match krd (L.length + 7) L with
  | some (k, []) => if 0 < qT k 1 then some k else none
  | _ => none
/-- What the specification answers. -/
def specK (L : List UInt8) : Option Kd :=
  if 800 < L.length then none else
  match krd 6 L with
  | some (k, []) => if 0 < qT k 1 ∧ kxT k = L then some k else none
  | _ => none

theorem progK_some {L : List UInt8} {k : Kd} : progK L = some k ↔ (L.length ≤ 800 ∧ 0 < qT k 1 ∧ kxT k = L) := by
  unfold progK
  constructor
  · intro h
    split at h
    · cases h
    · split at h
      · rename_i h8 k' hk
        split at h
        · rename_i hq
          cases h
          have := krd_sound _ _ _ _ hk
          exact ⟨by omega, hq, by simpa using this.symm⟩
        · cases h
      · cases h
  · rintro ⟨h8, hq, rfl⟩
    rw [if_neg (by omega)]
    have := krd_yes ((kxT k).length + 7) k [] (ok_of_qT hq).1 (levB_le (lev_of_qT hq) (by omega))
    rw [List.append_nil] at this
    rw [this]
    simp [hq]
theorem specK_some {L : List UInt8} {k : Kd} : specK L = some k ↔ (L.length ≤ 800 ∧ 0 < qT k 1 ∧ kxT k = L) := by
  unfold specK
  constructor
  · intro h
    split at h
    · cases h
    · split at h
      · rename_i h8 k' hk
        split at h
        · rename_i hq
          cases h
          exact ⟨by omega, hq.1, hq.2⟩
        · cases h
      · cases h
  · rintro ⟨h8, hq, rfl⟩
    rw [if_neg (by omega)]
    have := krd_yes 6 k [] (ok_of_qT hq).1 (lev_of_qT hq)
    rw [List.append_nil] at this
    rw [this]
    simp [hq]
/-- Both answer the same. -/
theorem same_kread (L : List UInt8) : progK L = specK L := by
  apply Option.ext
  intro k
  rw [progK_some, specK_some]
end Go.Proofs.YthkjhmcbmakkdaaDoor
