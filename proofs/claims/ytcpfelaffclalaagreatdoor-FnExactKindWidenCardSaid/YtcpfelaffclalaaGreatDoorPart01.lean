/- Whether a schema fits into another one, as a function on data, and part by part over the names of both forms. No program, no conditions. -/
import Derived.Test.YtcpfelaffclalaaGreatDoorPart00
import Derived.Test.YtcpfelaffclalaaGreatDoorRows
import Derived.Deep.OwnRows
import Derived.Deep.RegionWith
import Derived.Maps.OwnSet
import Derived.Maps.OwnOps
import Derived.Maps.Views
import Derived.Deep.Draws
import Derived.WalkKit
namespace Go.Proofs.YtcpfelaffclalaaGreatDoor
open Go Go.RowKit

/-- No schema: the sort of what a form has under a name that it has not. -/
def kd0 : Kd := .mk 0 [] []
/-- The place of a name among names. -/
def plN (ns : List ByteArray) (nm : ByteArray) : Nat := ns.findIdx (fun x => decide (x = nm))
/-- The schema of a name in a form. -/
def kidN (k : Kd) (nm : ByteArray) : Option Kd := if plN k.names nm < k.names.length then some (k.kids.getD (plN k.names nm) kd0) else none
theorem plN_at {ns : List ByteArray} {nm : ByteArray} {i : Nat} (hi : i < ns.length) (h : ns[i] = nm) (hb : ∀ j, (hj : j < i) → ns[j]'(by omega) ≠ nm) : plN ns nm = i := by
  unfold plN
  rw [List.findIdx_eq hi]
  exact ⟨by simpa using h, fun j hj => by simpa using hb j hj⟩
theorem plN_none {ns : List ByteArray} {nm : ByteArray} (h : nm ∉ ns) : plN ns nm = ns.length := by
  unfold plN
  rw [List.findIdx_eq_length]
  intro x hx
  simp only [decide_eq_false_iff_not]
  exact fun e => h (e ▸ hx)
theorem kidN_some {k : Kd} {nm : ByteArray} {i : Nat} (hi : i < k.names.length) (hk : i < k.kids.length) (h : k.names[i] = nm) (hb : ∀ j, (hj : j < i) → k.names[j]'(by omega) ≠ nm) : kidN k nm = some k.kids[i] := by
  unfold kidN
  rw [plN_at hi h hb, if_pos hi]
  simp [List.getD_eq_getElem?_getD, List.getElem?_eq_getElem hk]
theorem kidN_none {k : Kd} {nm : ByteArray} (h : nm ∉ k.names) : kidN k nm = none := by
  unfold kidN
  rw [plN_none h, if_neg (by omega)]
/-- Names that rise are all different. -/
theorem less_irr (l : List UInt8) : Op.bytesLess l l = false := by
  induction l with
  | nil => rfl
  | cons a r ih => simp [Op.bytesLess, ih]
theorem kidN_is {k : Kd} {nm : ByteArray} (h : (kidN k nm).isSome = true) : nm ∈ k.names := by
  unfold kidN at h
  split at h
  · next hp =>
    have h2 : plN k.names nm < k.names.length := hp
    unfold plN at h2
    have := List.findIdx_getElem (w := h2)
    simp only [decide_eq_true_eq] at this
    rw [← this]
    exact List.getElem_mem _
  · cases h
theorem kidN_has {k : Kd} {nm : ByteArray} (h : nm ∈ k.names) : (kidN k nm).isSome = true := by
  unfold kidN
  have : plN k.names nm < k.names.length := by
    unfold plN
    rw [List.findIdx_lt_length]
    exact ⟨nm, h, by simp⟩
  rw [if_pos this]; rfl
/-- Whether a schema fits into another one, so deep. -/
def fitF : Nat → Kd → Kd → Bool
  | 0, _, _ => false
  | n + 1, a, b =>
    if b.sort = 6 then (if a.sort = 6 then fitF n (a.kids.getD 0 kd0) (b.kids.getD 0 kd0) else fitF n a (b.kids.getD 0 kd0))
    else if a.sort ≠ b.sort then false
    else if a.sort = 4 then fitF n (a.kids.getD 0 kd0) (b.kids.getD 0 kd0)
    else (List.range a.names.length).all (fun i => match kidN b (a.names.getD i ByteArray.empty) with | some x => fitF n (a.kids.getD i kd0) x | none => false)
      && (List.range b.names.length).all (fun i => (kidN a (b.names.getD i ByteArray.empty)).isSome || decide ((b.kids.getD i kd0).sort = 6))
section
variable {n : Nat} {a b : Kd}
theorem fit_mm (hb : b.sort = 6) (ha : a.sort = 6) (hka : 0 < a.kids.length) (hkb : 0 < b.kids.length) : fitF (n + 1) a b = fitF n a.kids[0] b.kids[0] := by
  rw [fitF, if_pos hb, if_pos ha]
  simp [List.getD_eq_getElem?_getD, List.getElem?_eq_getElem hka, List.getElem?_eq_getElem hkb]
theorem fit_xm (hb : b.sort = 6) (ha : a.sort ≠ 6) (hkb : 0 < b.kids.length) : fitF (n + 1) a b = fitF n a b.kids[0] := by
  rw [fitF, if_pos hb, if_neg ha]
  simp [List.getD_eq_getElem?_getD, List.getElem?_eq_getElem hkb]
theorem fit_ne (hb : b.sort ≠ 6) (h : a.sort ≠ b.sort) : fitF (n + 1) a b = false := by
  rw [fitF, if_neg hb, if_pos h]
theorem fit_ll (hb : b.sort = 4) (ha : a.sort = 4) (hka : 0 < a.kids.length) (hkb : 0 < b.kids.length) : fitF (n + 1) a b = fitF n a.kids[0] b.kids[0] := by
  rw [fitF, if_neg (by omega), if_neg (by omega), if_pos ha]
  simp [List.getD_eq_getElem?_getD, List.getElem?_eq_getElem hka, List.getElem?_eq_getElem hkb]
theorem fit_eq (hb : b.sort ≠ 6) (h : a.sort = b.sort) (h4 : a.sort ≠ 4) : fitF (n + 1) a b = ((List.range a.names.length).all (fun i => match kidN b (a.names.getD i ByteArray.empty) with | some x => fitF n (a.kids.getD i kd0) x | none => false)
      && (List.range b.names.length).all (fun i => (kidN a (b.names.getD i ByteArray.empty)).isSome || decide ((b.kids.getD i kd0).sort = 6))) := by
  rw [fitF, if_neg hb, if_neg (by simpa using h), if_neg h4]
/-- Name by name. -/
theorem fit_no1 (hb : b.sort ≠ 6) (h : a.sort = b.sort) (h4 : a.sort ≠ 4) {i : Nat} (hi : i < a.names.length) (hk : kidN b a.names[i] = none) : fitF (n + 1) a b = false := by
  rw [fit_eq hb h h4, Bool.and_eq_false_iff]
  left
  rw [Bool.eq_false_iff]
  intro hh
  rw [List.all_eq_true] at hh
  have := hh i (List.mem_range.2 hi)
  simp [List.getD_eq_getElem?_getD, List.getElem?_eq_getElem hi, hk] at this
theorem fit_no2 (hb : b.sort ≠ 6) (h : a.sort = b.sort) (h4 : a.sort ≠ 4) {i : Nat} (hi : i < a.names.length) (hi2 : i < a.kids.length) {x : Kd} (hk : kidN b a.names[i] = some x) (hf : fitF n a.kids[i] x = false) : fitF (n + 1) a b = false := by
  rw [fit_eq hb h h4, Bool.and_eq_false_iff]
  left
  rw [Bool.eq_false_iff]
  intro hh
  rw [List.all_eq_true] at hh
  have := hh i (List.mem_range.2 hi)
  simp [List.getD_eq_getElem?_getD, List.getElem?_eq_getElem hi, List.getElem?_eq_getElem hi2, hk, hf] at this
theorem fit_no3 (hb : b.sort ≠ 6) (h : a.sort = b.sort) (h4 : a.sort ≠ 4) {i : Nat} (hi : i < b.names.length) (hi2 : i < b.kids.length) (hk : kidN a b.names[i] = none) (hs : b.kids[i].sort ≠ 6) : fitF (n + 1) a b = false := by
  rw [fit_eq hb h h4, Bool.and_eq_false_iff]
  right
  rw [Bool.eq_false_iff]
  intro hh
  rw [List.all_eq_true] at hh
  have := hh i (List.mem_range.2 hi)
  simp [List.getD_eq_getElem?_getD, List.getElem?_eq_getElem hi, List.getElem?_eq_getElem hi2, hk, hs] at this
theorem fit_yes (hb : b.sort ≠ 6) (h : a.sort = b.sort) (h4 : a.sort ≠ 4) (hla : a.kids.length = a.names.length) (hlb : b.kids.length = b.names.length)
    (h1 : ∀ i, (hi : i < a.names.length) → ∃ x, kidN b a.names[i] = some x ∧ fitF n (a.kids[i]'(by omega)) x = true)
    (h2 : ∀ i, (hi : i < b.names.length) → (kidN a b.names[i]).isSome = true ∨ (b.kids[i]'(by omega)).sort = 6) : fitF (n + 1) a b = true := by
  rw [fit_eq hb h h4, Bool.and_eq_true]
  constructor
  · rw [List.all_eq_true]
    intro i hi
    have hi := List.mem_range.1 hi
    obtain ⟨x, hx, hf⟩ := h1 i hi
    simp [List.getD_eq_getElem?_getD, List.getElem?_eq_getElem hi, List.getElem?_eq_getElem (show i < a.kids.length by omega), hx, hf]
  · rw [List.all_eq_true]
    intro i hi
    have hi := List.mem_range.1 hi
    have := h2 i hi
    simp only [List.getD_eq_getElem?_getD, List.getElem?_eq_getElem hi, List.getElem?_eq_getElem (show i < b.kids.length by omega), Option.getD_some, Bool.or_eq_true, decide_eq_true_eq]
    exact this
end
/-- A pair of which one may be nothing. -/
def pF (n : Nat) (a b : Kd) : Bool := if a.sort = 0 then decide (b.sort = 6) else if b.sort = 0 then false else fitF n a b
/-- The schema of a name, or nothing. -/
def kidZ (k : Kd) (nm : ByteArray) : Kd := (kidN k nm).getD kd0
theorem nodup_at {ns : List ByteArray} (h : ns.Nodup) {i j : Nat} (hi : i < ns.length) (hj : j < ns.length) (e : ns[i] = ns[j]) : i = j := by
  have hp := List.pairwise_iff_getElem.1 h
  rcases Nat.lt_trichotomy i j with h1 | h1 | h1
  · exact absurd e (hp i j hi hj h1)
  · exact h1
  · exact absurd e.symm (hp j i hj hi h1)
/-- In a form that is ok the schema of its i-th name is its i-th kid. -/
theorem kidN_at {k : Kd} (hn : k.names.Nodup) (hl : k.kids.length = k.names.length) {i : Nat} (hi : i < k.names.length) : kidN k k.names[i] = some (k.kids[i]'(by omega)) :=
  kidN_some hi (by omega) rfl (fun j hj e => by have := nodup_at hn (by omega) hi e; omega)
theorem fit_open {n : Nat} {a b : Kd} (hb : b.sort ≠ 6) (h : a.sort = b.sort) (h4 : a.sort ≠ 4) (hla : a.kids.length = a.names.length) (hlb : b.kids.length = b.names.length) (hf : fitF (n + 1) a b = true) :
    (∀ i, (hi : i < a.names.length) → ∃ x, kidN b a.names[i] = some x ∧ fitF n (a.kids[i]'(by omega)) x = true) ∧ (∀ i, (hi : i < b.names.length) → (kidN a b.names[i]).isSome = true ∨ (b.kids[i]'(by omega)).sort = 6) := by
  constructor
  · intro i hi
    cases hk : kidN b a.names[i] with
    | none => rw [fit_no1 hb h h4 hi hk] at hf; cases hf
    | some x =>
      refine ⟨x, rfl, ?_⟩
      cases hx : fitF n (a.kids[i]'(by omega)) x with
      | true => rfl
      | false => rw [fit_no2 hb h h4 hi (by omega) hk hx] at hf; cases hf
  · intro i hi
    cases hk : kidN a b.names[i] with
    | some x => exact Or.inl rfl
    | none =>
      by_cases hs : (b.kids[i]'(by omega)).sort = 6
      · exact Or.inr hs
      · rw [fit_no3 hb h h4 hi (by omega) hk hs] at hf; cases hf
/-- Two forms fit if they do under each name that one of them has. -/
theorem fit_union {n : Nat} {a b : Kd} (ha5 : a.sort = 5) (hb5 : b.sort = 5) (hla : a.kids.length = a.names.length) (hlb : b.kids.length = b.names.length) (hna : a.names.Nodup) (hnb : b.names.Nodup)
    (hza : ∀ k, k ∈ a.kids → k.sort ≠ 0) (hzb : ∀ k, k ∈ b.kids → k.sort ≠ 0) (U : List ByteArray) (hU : ∀ nm, nm ∈ U ↔ nm ∈ a.names ∨ nm ∈ b.names) :
    fitF (n + 1) a b = U.all fun nm => pF n (kidZ a nm) (kidZ b nm) := by
  have hb6 : b.sort ≠ 6 := by omega
  have hab : a.sort = b.sort := by omega
  have ha4 : a.sort ≠ 4 := by omega
  rw [Bool.eq_iff_iff, List.all_eq_true]
  constructor
  · intro hf nm hm
    obtain ⟨h1, h2⟩ := fit_open hb6 hab ha4 hla hlb hf
    by_cases hma : nm ∈ a.names
    · obtain ⟨i, hi, rfl⟩ := List.mem_iff_getElem.1 hma
      obtain ⟨x, hx, hfx⟩ := h1 i hi
      have hx0 : x.sort ≠ 0 := by
        obtain ⟨j, hj, e⟩ := List.mem_iff_getElem.1 (kidN_is (by rw [hx]; rfl))
        rw [← e, kidN_at hnb hlb hj] at hx
        rw [← Option.some.inj hx]
        exact hzb _ (List.getElem_mem _)
      unfold pF kidZ
      rw [kidN_at hna hla hi, hx]
      simp only [Option.getD_some]
      rw [if_neg (hza _ (List.getElem_mem _)), if_neg hx0]
      exact hfx
    · have hmb : nm ∈ b.names := ((hU nm).1 hm).resolve_left hma
      obtain ⟨i, hi, rfl⟩ := List.mem_iff_getElem.1 hmb
      have := (h2 i hi).resolve_left (fun h => hma (kidN_is h))
      unfold pF kidZ
      rw [kidN_none hma, kidN_at hnb hlb hi]
      simp only [Option.getD_some, Option.getD_none]
      rw [if_pos (show kd0.sort = 0 from rfl)]
      exact decide_eq_true this
  · intro hall
    refine fit_yes hb6 hab ha4 hla hlb (fun i hi => ?_) (fun i hi => ?_)
    · have := hall a.names[i] ((hU _).2 (Or.inl (List.getElem_mem _)))
      unfold pF kidZ at this
      rw [kidN_at hna hla hi] at this
      simp only [Option.getD_some] at this
      rw [if_neg (hza _ (List.getElem_mem _))] at this
      cases hk : kidN b a.names[i] with
      | none => rw [hk] at this; simp [kd0, Kd.sort] at this
      | some x =>
        rw [hk] at this
        simp only [Option.getD_some] at this
        split at this
        · cases this
        · exact ⟨x, rfl, this⟩
    · by_cases hma : b.names[i] ∈ a.names
      · exact Or.inl (kidN_has hma)
      · have := hall b.names[i] ((hU _).2 (Or.inr (List.getElem_mem _)))
        unfold pF kidZ at this
        rw [kidN_none hma, kidN_at hnb hlb hi] at this
        simp only [Option.getD_some, Option.getD_none] at this
        rw [if_pos (show kd0.sort = 0 from rfl)] at this
        exact Or.inr (of_decide_eq_true this)
end Go.Proofs.YtcpfelaffclalaaGreatDoor

/- Small laws of lists of strings, of a cell that is set. No program walked but one fact of its types; no conditions. -/

namespace Go.Proofs.YtcpfelaffclalaaGreatDoor
open Go Go.RowKit

theorem wS_take (ss : List ByteArray) (k : Nat) (h : k < ss.length) : wS (ss.take (k + 1)) = wS (ss.take k) + ss[k].size + 1 := by
  induction ss generalizing k with
  | nil => simp at h
  | cons a r ih =>
    cases k with
    | zero => simp [wS]
    | succ k => simp only [List.take_succ_cons, wS, List.getElem_cons_succ]; rw [ih k (by simpa using h)]; omega

theorem infoString : (Tryz.prog.info? 9).map (fun i => (i.zero, i.size, i.bytes)) = some (some (.string ByteArray.empty), 1, 16) := by kernel_rfl
theorem size_setCell (w : World) (a : Addr) (v : Value) : (w.setCell a v).heap.size = w.heap.size := by simp [World.setCell]
end Go.Proofs.YtcpfelaffclalaaGreatDoor

/- Names with the places at which they stand, in a map of the call's own. No conditions. -/

namespace Go.Proofs.YtcpfelaffclalaaGreatDoor
open Go Go.RowKit Go.WideMaps Go.Maps

/-- What a name reads as, where it is a key. -/
def nkey (s : ByteArray) : Lit := .string s.data.toList
/-- The map behind k names. -/
def nmap (ns : List ByteArray) : Nat → DataW Unit
  | 0 => .map []
  | k + 1 => (nmap ns k).put (nkey (ns.getD k ByteArray.empty)) (.lit (.int .i64 k))
theorem nmap_map (ns : List ByteArray) : ∀ k, IsMap (nmap ns k)
  | 0 => ⟨[], rfl⟩
  | k + 1 => (nmap_map ns k).put _ _
theorem nkey_inj {a b : ByteArray} (h : nkey a = nkey b) : a = b := by
  simp only [nkey, Lit.string.injEq] at h
  exact ByteArray.ext (Array.toList_inj.1 h)
theorem nkey_ok (s : ByteArray) : WideAt.IsKeyLit (nkey s) := trivial
theorem has_nmap (ns : List ByteArray) (x : ByteArray) : ∀ k, k ≤ ns.length → (Maps.has (nmap ns k) (nkey x) = true ↔ x ∈ ns.take k)
  | 0, _ => by simp [nmap, Maps.has]
  | k + 1, h => by
    have hg : ns.getD k ByteArray.empty = ns[k] := by simp [List.getD, show k < ns.length by omega]
    rw [nmap, hg, List.take_succ_eq_append_getElem (by omega), List.mem_append]
    by_cases e : x = ns[k]
    · rw [e, has_put_same (nmap_map ns k) (nkey_ok _)]
      simp
    · rw [has_put_other (fun h => e (nkey_inj h)), has_nmap ns x k (by omega)]
      simp [e]
theorem at_nmap (ns : List ByteArray) (hnd : ns.Nodup) (i : Nat) (hi : i < ns.length) : ∀ k, k ≤ ns.length → i < k → (nmap ns k).atKey (nkey ns[i]) (.lit (.int .i64 0)) = .lit (.int .i64 i)
  | 0, _, h => by omega
  | k + 1, h, hk => by
    have hg : ns.getD k ByteArray.empty = ns[k] := by simp [List.getD, show k < ns.length by omega]
    rw [nmap, hg]
    by_cases e : i = k
    · subst e
      exact atKey_put_same (nmap_map ns i) (nkey_ok _) _ _
    · rw [atKey_put_other (fun hh => e ((List.getElem_inj hnd).1 (nkey_inj hh)))]
      exact at_nmap ns hnd i hi k (by omega) (by omega)

theorem keyLaw : Keyed Tryz.prog 9 := string_keyed Tryz.underlying9
theorem zeroInt (w : World) : (zeroValue 3).run Tryz.prog w = .ok (.int .i64 0) w := by kernel_rfl
set_option maxRecDepth 100000 in
theorem runMake (n : Int) (w : World) : (Instr.makeMap 99 (some (.int .i64 n))).run Tryz.prog w = .ok (.map (some w.heap.size)) (w.alloc (.map #[] 0)) := by rfl

/-- The names and the map of their places. -/
def NMap (w : World) (B : Nat) (ns : List ByteArray) : Prop := w.ownsMap Tryz.prog 9 (plainElem (H := Unit) Tryz.prog 3) B ns.length (nmap ns ns.length)

def rowO (c0 c1 : Value) : Nat → Value
  | 0 => c0
  | _ => c1
theorem rowO_alloc (w : World) (c0 c1 : Value) (t : TypeId) : (w.alloc (.cells #[c0, c1] t)).rowIs w.heap.size t 2 (rowO c0 c1) :=
  World.rowIs_alloc w #[c0, c1] t _ (fun i hi => by
    have hi' : i < 2 := hi
    match i, hi' with
    | 0, _ => rfl
    | 1, _ => rfl)


end Go.Proofs.YtcpfelaffclalaaGreatDoor

/- The walks of newNameOrder and of nameOrder's hasJust: names with the places at which they stand, in a map of the call's own; whether names are among them, as many. No conditions but the number of names, at most 2^20. -/

namespace Go.Proofs.YtcpfelaffclalaaGreatDoor
open Go Go.RowKit Go.WideMaps Go.Maps

set_option maxRecDepth 100000 in
set_option maxHeartbeats 800000 in
theorem newNameOrder_any (v : Value) (ns : List ByteArray) (w : World) {P : Nat → Prop} (hP : ∀ b, P b → b < w.heap.size) (hv : StrsAt P w v ns) (hn : ns.length ≤ 1048576) :
    Calls Tryz.prog 99 #[v] w fun e w' => ∃ B, e = .returned (.agg #[v, .map (some B)]) ∧ NMap w' B ns ∧ w.heap.size ≤ B ∧ Below w.heap.size w w' := by
  obtain ⟨a, cap, rfl, hlen, hc⟩ := hv
  have HC := hide hc; have HP := hide hP
  clear hc hP
  have hmm := runMake
  go_enter Tryz.func99, Tryz.ntmps99
  go_wp2_with fail
  have hb1 : Below w.heap.size w (w.alloc (.cells #[.slice none 0 0, .map none] 101)) := (Below.refl _ _).alloc (Nat.le_refl _) _
  have hown0 := World.ownsMap_made (w.alloc (.cells #[.slice none 0 0, .map none] 101)) Tryz.prog 9 (plainElem (H := Unit) Tryz.prog 3)
  rw [World.size_alloc] at hown0
  have hr0 := (rowO_alloc w (.slice none 0 0) (.map none) 101).alloc (.map #[] 0)
  have hb2 := hb1.alloc (by simp) (.map #[] 0)
  have hs2 : ((w.alloc (.cells #[.slice none 0 0, .map none] 101)).alloc (.map #[] 0)).heap.size = w.heap.size + 2 := by simp
  generalize ((w.alloc (.cells #[.slice none 0 0, .map none] 101)).alloc (.map #[] 0)) = W0 at *
  have HR0 := hide hr0; have HB2 := hide hb2; have HO0 := hide hown0
  clear hr0 hb2 hown0 hb1 hmm
  go_loopw [11] (fun i wr => ∃ (k : Nat), k ≤ ns.length ∧ i = .int .i64 k ∧ Hid (wr.ownsMap Tryz.prog 9 (plainElem (H := Unit) Tryz.prog 3) (w.heap.size + 1) k (nmap ns k)) ∧ Hid (Below (w.heap.size + 1) W0 wr)) (fun i _ => ns.length - (intOf i).toNat)
  case atStart => exact ⟨0, Nat.zero_le _, rfl, unhide HO0, Below.refl _ _⟩
  case round =>
    obtain ⟨k, hk, rfl, HOWN, HB⟩ := hrel
    have hbw := (unhide HB2).trans (HB.out.mono (by omega))
    by_cases hlt : k < ns.length
    · obtain ⟨b, o, rfl, hpb, hcell, hsz⟩ := unhide HC k hlt
      have e1 : wr.cell? ⟨b, o + k, none⟩ = some (.string ns[k]) := by rw [hbw.cell (unhide HP b hpb)]; exact hcell
      have hkey : keyOf Tryz.prog 9 (.string ns[k]) = some (nkey ns[k]) := keyOf_string_mk Tryz.underlying9 (by unfold maxLen; omega)
      have hst : nmap ns (k + 1) = (nmap ns k).put (nkey ns[k]) (.lit (.int .i64 k)) := by
        rw [nmap]; congr 2; simp [List.getD, hlt]
      generalize ns[k] = nm at *
      have HST := hide hst
      clear hcell hpb hst
      go_wp2_with (at_mapUpdate; refine wpList_mapUpdate_own _ rfl _ _ _ 99 rfl 9 3 keyLaw Tryz.underlying99 _ (w.heap.size + 1) k _ rfl (unhide HOWN) (by unfold maxLen; omega) _ _ _ rfl rfl hkey _ [] (plainElem_int Tryz.underlying3 (WalkArith.wf_i64 (by omega))) ?_; intro w1 hown1 hgrow1)
      have hb4 := HB.out.grown hgrow1 (by have := HB.out.size; omega) (fun j hj => by cases hj; exact Nat.le_refl _)
      rw [← unhide HST] at hown1
      have HO1 := hide hown1; have HB4 := hide hb4
      clear hown1 hb4 hgrow1
      go_wp2_with fail
      go_roundw
      case rel => exact ⟨k + 1, by omega, by go_num, unhide HO1, unhide HB4⟩
      case measure => simp [intOf]; omega
    · obtain rfl : k = ns.length := by omega
      have q0 := (unhide HR0).of_block (HB.out.block w.heap.size (by omega))
      have z := q0.frozen
      have y0 := q0.cell (i := 0) (by omega); have y1 := q0.cell (i := 1) (by omega)
      simp only [rowO] at y0 y1
      have HBW := hide hbw
      clear q0 hbw
      go_wp2_with fail
      have hset : wr.grownBy ((wr.setCell ⟨w.heap.size, 0, none⟩ (.slice a ns.length cap)).setCell ⟨w.heap.size, 1, none⟩ (.map (some (w.heap.size + 1)))) (some w.heap.size) :=
        ⟨rfl, rfl, rfl, by simp [World.setCell], fun x _ hx => by rw [Below.heap_setCell _ _ _ _ (fun e => hx (by rw [e])), Below.heap_setCell _ _ _ _ (fun e => hx (by rw [e]))]⟩
      refine bodyPost_ret (v := .agg #[.slice a ns.length cap, .map (some (w.heap.size + 1))]) (by simp [results, Tryz.results99, go_sem, y0, y1]) rfl ⟨w.heap.size + 1, rfl, ?_, by omega, ?_⟩
      · exact HOWN.out.kept hset (by simp)
      · exact ((unhide HBW).setCell (Nat.le_refl _) _).setCell (Nat.le_refl _) _

/-- Whether names are just the kept ones. -/
def justB (ns names : List ByteArray) : Bool := names.all (fun x => Maps.has (nmap ns ns.length) (nkey x)) && decide (names.length = ns.length)
theorem all_take {f : ByteArray → Bool} {l : List ByteArray} {k : Nat} (h : k < l.length) : (l.take (k + 1)).all f = ((l.take k).all f && f l[k]) := by
  rw [List.take_succ_eq_append_getElem h, List.all_append]; simp
theorem all_false {f : ByteArray → Bool} {l : List ByteArray} {k : Nat} (h : k < l.length) (hf : f l[k] = false) : l.all f = false := by
  rw [List.all_eq_false]; exact ⟨l[k], List.getElem_mem h, by simp [hf]⟩

set_option maxRecDepth 100000 in
set_option maxHeartbeats 800000 in
theorem hasJust_any (a : Option Addr) (cap B : Nat) (ns : List ByteArray) (v2 : Value) (names : List ByteArray) (w : World) {P : Nat → Prop} (hP : ∀ b, P b → b < w.heap.size) (hv : StrsAt P w v2 names) (hm : NMap w B ns) :
    Calls Tryz.prog 100 #[.agg #[.slice a ns.length cap, .map (some B)], v2] w fun e w' => e = .returned (.bool (justB ns names)) ∧ Below w.heap.size w w' := by
  obtain ⟨a2, cap2, rfl, hlen, hc⟩ := hv
  have hB := hm.lt
  have HC := hide hc; have HP := hide hP; have HM := hide hm
  clear hc hP hm
  go_enter Tryz.func100, Tryz.ntmps100
  go_wp2_with fail
  have hr0 := rowO_alloc w (.slice a ns.length cap) (.map (some B)) 101
  have hb0 : Below w.heap.size w (w.alloc (.cells #[.slice a ns.length cap, .map (some B)] 101)) := (Below.refl _ _).alloc (Nat.le_refl _) _
  have hs0 : (w.alloc (.cells #[.slice a ns.length cap, .map (some B)] 101)).heap.size = w.heap.size + 1 := by simp
  have hm0 : NMap (w.alloc (.cells #[.slice a ns.length cap, .map (some B)] 101)) B ns := (unhide HM).alloc _
  generalize (w.alloc (.cells #[.slice a ns.length cap, .map (some B)] 101)) = W0 at *
  have HR0 := hide hr0; have HB0 := hide hb0; have HM0 := hide hm0
  clear hr0 hb0 hm0
  go_loopw [11] (fun i wr => ∃ (k : Nat), k ≤ names.length ∧ i = .int .i64 k ∧ Hid ((names.take k).all (fun x => Maps.has (nmap ns ns.length) (nkey x)) = true) ∧ Hid (Below W0.heap.size W0 wr)) (fun i _ => names.length - (intOf i).toNat)
  case atStart => exact ⟨0, Nat.zero_le _, rfl, by simp [Hid], Below.refl _ _⟩
  case round =>
    obtain ⟨k, hk, rfl, HA, HB⟩ := hrel
    have hbw := (unhide HB0).trans (HB.out.mono (by omega))
    have q0 := (unhide HR0).of_block (HB.out.block w.heap.size (by omega))
    have y0 := q0.cell (i := 0) (by omega); have y1 := q0.cell (i := 1) (by omega)
    simp only [rowO] at y0 y1
    have hmw : NMap wr B ns := (unhide HM0).kept (row := none) ⟨HB.out.os, HB.out.tape, HB.out.output, HB.out.size, fun x hx _ => HB.out.block x hx⟩ (by simp)
    have HMW := hide hmw; have HBW := hide hbw
    by_cases hlt : k < names.length
    · obtain ⟨b, o, rfl, hpb, hcell, hsz⟩ := unhide HC k hlt
      have e1 : wr.cell? ⟨b, o + k, none⟩ = some (.string names[k]) := by rw [hbw.cell (unhide HP b hpb)]; exact hcell
      have hkey : keyOf Tryz.prog 9 (.string names[k]) = some (nkey names[k]) := keyOf_string_mk Tryz.underlying9 (by unfold maxLen; omega)
      have hat := all_take (f := fun x => Maps.has (nmap ns ns.length) (nkey x)) hlt
      have haf := all_false (f := fun x => Maps.has (nmap ns ns.length) (nkey x)) hlt
      rw [unhide HA, Bool.true_and] at hat
      cases hv : Maps.has (nmap ns ns.length) (nkey names[k])
      · have hj : justB ns names = false := by rw [justB, haf hv]; rfl
        have HJ := hide hj
        generalize names[k] = nm at *
        clear hcell hpb hbw q0 hat haf hj hmw
        go_wp2_with (at_lookup; refine wpList_lookup_own_ok_int _ rfl _ _ 99 rfl 9 3 .i64 keyLaw Tryz.underlying99 Tryz.underlying3 (zeroInt _) B ns.length _ rfl (unhide HMW) _ _ rfl hkey ?_; intro c hat hwc)
        go_ret
        exact ⟨by rw [unhide HJ]; rfl, unhide HBW⟩
      · have ha2 : (names.take (k + 1)).all (fun x => Maps.has (nmap ns ns.length) (nkey x)) = true := by rw [hat]; exact hv
        have HA2 := hide ha2
        generalize names[k] = nm at *
        clear hcell hpb hbw q0 hat haf ha2 hmw
        go_wp2_with (at_lookup; refine wpList_lookup_own_ok_int _ rfl _ _ 99 rfl 9 3 .i64 keyLaw Tryz.underlying99 Tryz.underlying3 (zeroInt _) B ns.length _ rfl (unhide HMW) _ _ rfl hkey ?_; intro c hat hwc)
        go_roundw
        case rel => exact ⟨k + 1, by omega, by go_num, unhide HA2, HB.out⟩
        case measure => simp [intOf]; omega
    · obtain rfl : k = names.length := by omega
      have hj : justB ns names = decide (names.length = ns.length) := by
        have := unhide HA
        rw [List.take_length] at this
        rw [justB, this, Bool.true_and]
      have HJ := hide hj
      clear q0 hbw hmw hj
      go_wp2_with fail
      go_ret
      refine ⟨?_, unhide HBW⟩
      have e : ((names.length : Int) == (ns.length : Int)) = decide (names.length = ns.length) := by
        rw [Bool.eq_iff_iff]; simp only [beq_iff_eq, decide_eq_true_eq]; constructor <;> intro h <;> omega
      rw [unhide HJ, ← e]
      rfl
end Go.Proofs.YtcpfelaffclalaaGreatDoor

/- Worlds of which but one block is as it was; append onto a row of the call's own. No program walked, no conditions. -/

namespace Go.Proofs.YtcpfelaffclalaaGreatDoor
open Go Go.RowKit

/-- All blocks but B that were there are as they were. -/
abbrev But (B : Nat) (w w' : World) : Prop := w.grownBy w' (some B)

theorem But.refl (B : Nat) (w : World) : But B w w := World.grownBy.refl w _
theorem But.trans {B : Nat} {a b c : World} (h : But B a b) (k : But B b c) : But B a c :=
  ⟨k.os.trans h.os, k.tape.trans h.tape, k.output.trans h.output, Nat.le_trans h.size k.size, fun i hi hne => (k.block i (Nat.lt_of_lt_of_le hi h.size) hne).trans (h.block i hi hne)⟩
theorem But.of_below {B : Nat} {w w' : World} (h : Below w.heap.size w w') : But B w w' :=
  ⟨h.os, h.tape, h.output, h.size, fun i hi _ => h.block i hi⟩
theorem But.alloc (B : Nat) (w : World) (o : Obj) : But B w (w.alloc o) := But.of_below ((Below.refl _ _).alloc (Nat.le_refl _) o)
theorem But.set {B : Nat} (w : World) (o : Nat) (v : Value) : But B w (w.setCell ⟨B, o, none⟩ v) :=
  ⟨rfl, rfl, rfl, by simp [World.setCell], fun i _ hne => Below.heap_setCell _ _ _ _ (fun e => hne (by rw [e]))⟩
theorem But.at {B : Nat} {w w' : World} (h : But B w w') {b : Nat} (hb : b < w.heap.size) (hne : b ≠ B) : w'.heap[b]? = w.heap[b]? :=
  h.block b hb (fun e => hne (by simpa using e))

theorem ownsRow_base {w : World} {base base' : Nat} {e : TypeId} {size : Nat} {v : Value} {n : Nat} {xs : List Value} (h : w.ownsRow base e size v n xs) (hb : base' ≤ base) : w.ownsRow base' e size v n xs := by
  refine ⟨h.1, ?_⟩
  rcases h.2 with h | ⟨g, cap, cur, h1, h2, h3⟩
  · exact Or.inl h
  · exact Or.inr ⟨g, cap, cur, h1, Nat.le_trans hb h2, h3⟩

/-- append onto a row of the call's own: behind it the value lies in the same block, or in a new one. -/
theorem append_row {P : Program} (w : World) {ops : Array Oper} {rest : List Oper} {o : Oper} {a : Act} {Q : Exit → Act → World → Prop}
    (hg : o.guard = none) (s x : Operand) (t : TypeId) (hop : o.op = Op.call { callee := Callee.builtin Builtin.append, args := #[s, x], argTypes := #[t, t] })
    (base : Nat) (e : TypeId) (i : TypeInfo) (z : Value) (size bytes : Nat) (h1 : P.underlying t = some (.slice e)) (h2 : P.info? e = some i) (h3 : i.zero = some z) (h4 : i.size = size) (h5 : i.bytes = bytes) (h6 : z.cells.size = size) (h7 : 0 < size)
    (v : Value) (n : Nat) (xs : List Value) (hs : a.eval s = v) (hown : w.ownsRow base e size v n xs)
    (ad : Addr) (m c : Nat) (news : List Value) (hx : a.eval x = .slice (some ad) m c) (hn : news.length = m * size) (hc : ∀ j u, news[j]? = some u → w.cell? (ad.add j) = some u) (h1c : ∀ u ∈ news, u.oneCell' = true)
    (hm : 0 < m) (b1 : n + m ≤ maxLen) (b2 : (n + m) * bytes ≤ 140737488355328) (hbase : base ≤ w.heap.size)
    (hK : ∀ v' w', w'.ownsRow base e size v' (n + m) (xs ++ news) → w.grownBy w' v.ownBlock → (v'.ownBlock = v.ownBlock ∨ ∃ g, v'.ownBlock = some g ∧ w.heap.size ≤ g) → wpList P ops Q rest (a.put o.dst v') w') :
    wpList P ops Q (o :: rest) a w := by
  have hgrow : ∀ v' w', w'.ownsRow w.heap.size e size v' (n + m) (xs ++ news) → w.grownBy w' none → wpList P ops Q rest (a.put o.dst v') w' := fun v' w' r1 r2 => by
    refine hK v' w' (ownsRow_base r1 hbase) ⟨r2.os, r2.tape, r2.output, r2.size, fun k hk _ => r2.block k hk (by simp)⟩ (Or.inr ?_)
    rcases r1.2 with ⟨_, h⟩ | ⟨g, cap, cur, hv, hgg, _⟩
    · omega
    · exact ⟨g, by rw [hv]; rfl, hgg⟩
  rcases hown.2 with ⟨hv, hn0⟩ | ⟨g, cap, cur, hv, hgb, hh, hle, hm2, hsz, htk⟩
  · subst hv; subst hn0
    have hxs : xs = [] := List.eq_nil_of_length_eq_zero (by have := hown.1; simpa using this)
    subst hxs
    exact wpList_append_grows w hg s x t hop e i z size bytes h1 h2 h3 h4 h5 h6 h7 none 0 0 [] hs (fun _ => ⟨rfl, rfl⟩) (by simp) (fun b hb => by cases hb) ad m c news hx hn hc h1c (by omega) b1 b2 hgrow
  · by_cases hr : n + m ≤ cap
    · subst hv
      exact wpList_append_fits w hg s x t hop base e i size h1 h2 h4 g n cap xs hs hown ad m c news hx hn hc h1c hr fun w' r1 r2 => hK _ w' r1 r2 (Or.inl rfl)
    · refine wpList_append_grows w hg s x t hop e i z size bytes h1 h2 h3 h4 h5 h6 h7 (some ⟨g, 0, none⟩) n cap xs (by rw [hs, hv]) (fun hb => by cases hb) hown.1 (fun b hb j u hj => ?_) ad m c news hx hn hc h1c (by omega) b1 b2 hgrow
      simp only [Option.some.injEq] at hb
      subst hb
      have hj' : cur.toList[j]? = some u := by
        rw [← htk] at hj
        rw [List.getElem?_take] at hj
        split at hj
        · exact hj
        · cases hj
      rw [Addr.add_lit]
      simp only [Nat.zero_add, World.cell?, hh]
      simpa using hj'

theorem cell_one (w : World) (x : Value) (t : TypeId) : ∀ j u, [x][j]? = some u → (w.alloc (.cells #[x] t)).cell? ((⟨w.heap.size, 0, none⟩ : Addr).add j) = some u := by
  intro j u hj
  match j with
  | 0 => simp only [List.getElem?_cons_zero, Option.some.injEq] at hj; subst hj; rw [Addr.add_lit]; simp [go_sem]
  | j + 1 => simp at hj
end Go.Proofs.YtcpfelaffclalaaGreatDoor

/- A schema whose kids are found by their names, as it lies in memory: four cells, the third a map. Definitions and small laws; no program walked, no conditions. -/

namespace Go.Proofs.YtcpfelaffclalaaGreatDoor
open Go Go.RowKit Go.Maps

theorem NMap.carry {w w' : World} {B : Nat} {ns : List ByteArray} (h : NMap w B ns) (e : w'.heap[B]? = w.heap[B]?) : NMap w' B ns := by
  obtain ⟨es, clock, hb, r⟩ := h
  exact ⟨es, clock, e.trans hb, r⟩

/-- The four cells of a schema with named kids. -/
structure C4 where
  (c0 c1 c2 c3 : Value)
def c4l (c : C4) : List Value := [c.c0, c.c1, c.c2, c.c3]
def C4.at (w : World) (b o : Nat) (c : C4) : Prop :=
  w.cell? ⟨b, o, none⟩ = some c.c0 ∧ w.cell? ⟨b, o + 1, none⟩ = some c.c1 ∧ w.cell? ⟨b, o + 2, none⟩ = some c.c2 ∧ w.cell? ⟨b, o + 3, none⟩ = some c.c3
theorem C4.at.carry {w w' : World} {b o : Nat} {c : C4} (h : C4.at w b o c) (hb : w'.heap[b]? = w.heap[b]?) : C4.at w' b o c := by
  have e : ∀ o', w'.cell? ⟨b, o', none⟩ = w.cell? ⟨b, o', none⟩ := fun o' => World.cell?_of_block (w := w) hb
  obtain ⟨h0, h1, h2, h3⟩ := h
  exact ⟨by rw [e]; exact h0, by rw [e]; exact h1, by rw [e]; exact h2, by rw [e]; exact h3⟩

mutual
/-- Four cells are a schema with named kids: all that they lead to lies in blocks of which 'P' holds. -/
def NRep (P : Nat → Prop) (w : World) : Kd → C4 → Prop
  | .mk s ns ks, c => c.c0 = .int .i64 s ∧ I64 s ∧ StrsAt P w c.c1 ns ∧ (∃ B, c.c2 = .map (some B) ∧ P B ∧ NMap w B ns) ∧
    ∃ a cap, c.c3 = .slice a ks.length cap ∧ ks.length ≤ 9223372036854775807 ∧ (ks ≠ [] → ∃ b o, a = some ⟨b, o, none⟩ ∧ P b ∧ NRepK P w b o ks)
def NRepK (P : Nat → Prop) (w : World) (b : Nat) (o : Nat) : List Kd → Prop
  | [] => True
  | t :: r => (∃ c, C4.at w b o c ∧ NRep P w t c) ∧ NRepK P w b (o + 4) r
end
theorem NRepK.get {P : Nat → Prop} {w : World} {b o : Nat} {ks : List Kd} (h : NRepK P w b o ks) (i : Nat) (hi : i < ks.length) :
    ∃ c, C4.at w b (o + i * 4) c ∧ NRep P w ks[i] c := by
  induction ks generalizing o i with
  | nil => simp at hi
  | cons t r ih =>
    rw [NRepK] at h
    cases i with
    | zero => exact h.1
    | succ i =>
      obtain ⟨c, h1, h2⟩ := ih h.2 i (by simpa using hi)
      exact ⟨c, by rw [show o + (i + 1) * 4 = o + 4 + i * 4 from by omega]; exact h1, h2⟩
mutual
theorem NRep.carry {P Q : Nat → Prop} {w w' : World} (hP : ∀ b, P b → w'.heap[b]? = w.heap[b]?) (hQ : ∀ b, P b → Q b) : ∀ (t : Kd) (c : C4), NRep P w t c → NRep Q w' t c
  | .mk s ns ks, c => by
    intro h
    rw [NRep] at h ⊢
    obtain ⟨h0, h3, h6, ⟨B, hB1, hB2, hB3⟩, a, cap, h7, h8, h9⟩ := h
    refine ⟨h0, h3, h6.carry hP hQ, ⟨B, hB1, hQ B hB2, hB3.carry (hP B hB2)⟩, a, cap, h7, h8, fun hk => ?_⟩
    obtain ⟨b, o, e, p, hr⟩ := h9 hk
    exact ⟨b, o, e, hQ b p, NRepK.carry hP hQ b o (hP b p) ks hr⟩
theorem NRepK.carry {P Q : Nat → Prop} {w w' : World} (hP : ∀ b, P b → w'.heap[b]? = w.heap[b]?) (hQ : ∀ b, P b → Q b) (b : Nat) (o : Nat) (hb : w'.heap[b]? = w.heap[b]?) : ∀ (ks : List Kd), NRepK P w b o ks → NRepK Q w' b o ks
  | [] => by intro _; rw [NRepK]; trivial
  | t :: r => by
    intro h
    rw [NRepK] at h ⊢
    obtain ⟨⟨c, h1, h2⟩, h3⟩ := h
    exact ⟨⟨c, h1.carry hb, NRep.carry hP hQ t c h2⟩, NRepK.carry hP hQ b (o + 4) hb r h3⟩
end
theorem NRep.open {P : Nat → Prop} {w : World} {t : Kd} {c : C4} (h : NRep P w t c) :
    c.c0 = .int .i64 t.sort ∧ I64 t.sort ∧ StrsAt P w c.c1 t.names ∧ (∃ B, c.c2 = .map (some B) ∧ P B ∧ NMap w B t.names) ∧
    ∃ a cap, c.c3 = .slice a t.kids.length cap ∧ t.kids.length ≤ 9223372036854775807 ∧
      ∀ i, (hi : i < t.kids.length) → ∃ b o c, a = some ⟨b, o, none⟩ ∧ P b ∧ C4.at w b (o + i * 4) c ∧ NRep P w t.kids[i] c := by
  obtain ⟨s, ns, ks⟩ := t
  rw [NRep] at h
  obtain ⟨h0, h3, h6, hB, a, cap, h7, h8, h9⟩ := h
  refine ⟨h0, h3, h6, hB, a, cap, h7, h8, fun i hi => ?_⟩
  obtain ⟨b, o, e, p, hr⟩ := h9 (fun hh => by subst hh; simp [Kd.kids] at hi)
  obtain ⟨c', h1', h2'⟩ := hr.get i hi
  exact ⟨b, o, c', e, p, h1', h2'⟩

/-- Schemas with named kids whose cells stand in a row. -/
def NRepL (P : Nat → Prop) (w : World) : List Kd → List Value → Prop
  | [], xs => xs = []
  | t :: r, xs => ∃ c xs', xs = c4l c ++ xs' ∧ NRep P w t c ∧ NRepL P w r xs'
theorem NRepL.snoc {P : Nat → Prop} {w : World} {ks : List Kd} {xs : List Value} {t : Kd} {c : C4} (h : NRepL P w ks xs) (ht : NRep P w t c) : NRepL P w (ks ++ [t]) (xs ++ c4l c) := by
  induction ks generalizing xs with
  | nil =>
    have h' : xs = [] := h
    subst h'
    exact ⟨c, [], by simp, ht, rfl⟩
  | cons a r ih =>
    obtain ⟨d, xs', rfl, h1, h2⟩ := h
    exact ⟨d, xs' ++ c4l c, by simp, h1, ih h2⟩
theorem NRepL.carry {P Q : Nat → Prop} {w w' : World} {ks : List Kd} {xs : List Value} (h : NRepL P w ks xs) (hP : ∀ b, P b → w'.heap[b]? = w.heap[b]?) (hQ : ∀ b, P b → Q b) : NRepL Q w' ks xs := by
  induction ks generalizing xs with
  | nil => exact h
  | cons a r ih =>
    obtain ⟨d, xs', rfl, h1, h2⟩ := h
    exact ⟨d, xs', rfl, NRep.carry hP hQ a d h1, ih h2⟩
theorem NRepL.repK {P : Nat → Prop} {w : World} {g : Nat} {ks : List Kd} {xs : List Value} {o : Nat} (h : NRepL P w ks xs) (hc : ∀ j u, xs[j]? = some u → w.cell? ⟨g, o + j, none⟩ = some u) : NRepK P w g o ks := by
  induction ks generalizing xs o with
  | nil => rw [NRepK]; trivial
  | cons a r ih =>
    obtain ⟨d, xs', rfl, h1, h2⟩ := h
    rw [NRepK]
    refine ⟨⟨d, ⟨hc 0 _ rfl, hc 1 _ rfl, hc 2 _ rfl, hc 3 _ rfl⟩, h1⟩, ih h2 (fun j u hj => ?_)⟩
    have := hc (4 + j) u (by
      rw [List.getElem?_append_right (by simp [c4l]), show 4 + j - (c4l d).length = j from by simp [c4l]]; exact hj)
    rw [show o + 4 + j = o + (4 + j) from by omega]; exact this

/-- A slice of schemas with named kids, as gathered in a row of the call's own. -/
def NKids (P : Nat → Prop) (w : World) (v : Value) (ks : List Kd) : Prop := ∃ a cap, v = .slice a ks.length cap ∧ ks.length ≤ 9223372036854775807 ∧ (ks ≠ [] → ∃ b o, a = some ⟨b, o, none⟩ ∧ P b ∧ NRepK P w b o ks)
theorem NKids.of_row {P : Nat → Prop} {base : Nat} {w : World} {v : Value} {ks : List Kd} {xs : List Value} (h : w.ownsRow base 104 4 v ks.length xs) (hl : NRepL P w ks xs) (hP : ∀ g, base ≤ g → g < w.heap.size → P g) : NKids P w v ks := by
  rcases h.2 with ⟨hv, hn0⟩ | ⟨g, cap, cur, hv, hgb, hh, hle, hm2, hsz, htk⟩
  · have hks : ks = [] := List.eq_nil_of_length_eq_zero hn0
    subst hks
    exact ⟨none, 0, hv, by simp, fun h => absurd rfl h⟩
  · refine ⟨some ⟨g, 0, none⟩, cap, hv, by unfold maxLen at hm2; omega, fun _ => ⟨g, 0, rfl, hP g hgb (Array.getElem?_eq_some_iff.1 hh).1, hl.repK (fun j u hj => ?_)⟩⟩
    have hj' : cur.toList[j]? = some u := by
      rw [← htk] at hj
      rw [List.getElem?_take] at hj
      split at hj
      · exact hj
      · cases hj
    simp only [Nat.zero_add, World.cell?, hh]
    simpa using hj'
theorem NRep.make {P : Nat → Prop} {w : World} {t : Kd} {v1 v3 : Value} {B : Nat} (h0 : I64 t.sort) (h1 : StrsAt P w v1 t.names) (h2 : P B) (h3 : NMap w B t.names) (h4 : NKids P w v3 t.kids) : NRep P w t ⟨.int .i64 t.sort, v1, .map (some B), v3⟩ := by
  obtain ⟨s, ns, ks⟩ := t
  rw [NRep]
  exact ⟨rfl, h0, h1, ⟨B, rfl, h2, h3⟩, h4⟩
theorem NKids.carry {P Q : Nat → Prop} {w w' : World} {v : Value} {ks : List Kd} (h : NKids P w v ks) (hP : ∀ b, P b → w'.heap[b]? = w.heap[b]?) (hQ : ∀ b, P b → Q b) : NKids Q w' v ks := by
  obtain ⟨a, cap, h1, h2, h3⟩ := h
  refine ⟨a, cap, h1, h2, fun hk => ?_⟩
  obtain ⟨b, o, e, p, hr⟩ := h3 hk
  exact ⟨b, o, e, hQ b p, NRepK.carry hP hQ b o (hP b p) ks hr⟩
end Go.Proofs.YtcpfelaffclalaaGreatDoor
