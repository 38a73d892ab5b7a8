/- Records one behind the other as bytes, and what is read of a beginning of these. No program, no conditions. -/
import Derived.Test.YtkmjhcidafkflaaPart15
import Derived.Test.YtkmjhcidafkflaaPart06
import Derived.Test.YtkmjhcidafkflaaRows
import Derived.Test.YtkmjhcidafkflaaPart00
import Derived.Deep.OwnRows
import Derived.Deep.RegionWith
import Derived.Test.YtkmjhcidafkflaaPart13
import Derived.BigQuiet
namespace Go.Proofs.Ytkmjhcidafkflaa
open Go Go.RowKit

def okR (r : Rc) : Prop := frOk r.pos r.data.size = true
def frL (r : Rc) : List UInt8 := (frB r.pos r.data).data.toList
theorem ba_list (a b : ByteArray) : (a ++ b).data.toList = a.data.toList ++ b.data.toList := by simp
theorem frL_ok {r : Rc} (h : okR r) : frL r = [hb (r.data.size / 256), hb (r.data.size % 256), hb (r.pos / 65536), hb (r.pos / 256 % 256), hb (r.pos % 256)] ++ r.data.data.toList := by
  unfold frL frB
  rw [if_pos (show frOk r.pos r.data.size = true from h), ba_list, ba_list]
  rfl
theorem frL_len {r : Rc} (h : okR r) : (frL r).length = 5 + r.data.size := by
  rw [frL_ok h, List.length_append, size_list]; simp
/-- Records one behind the other. -/
def catB (L : List Rc) : ByteArray := L.foldl (fun a r => a ++ frB r.pos r.data) ByteArray.empty
theorem catB_snoc (L : List Rc) (r : Rc) : catB (L ++ [r]) = catB L ++ frB r.pos r.data := by
  unfold catB; rw [List.foldl_append]; rfl
theorem cat_acc (L : List Rc) : ∀ a : ByteArray, (L.foldl (fun a r => a ++ frB r.pos r.data) a).data.toList = a.data.toList ++ (L.map frL).flatten := by
  induction L with
  | nil => intro a; simp
  | cons r t ih => intro a; rw [List.foldl_cons, ih, ba_list, List.map_cons, List.flatten_cons, List.append_assoc]; rfl
theorem cat_list (L : List Rc) : (catB L).data.toList = (L.map frL).flatten := by
  unfold catB; rw [cat_acc]; simp
/-- Where so many of them end. -/
def enB (L : List Rc) (i : Nat) : Nat := (catB (L.take i)).size
theorem enB_list (L : List Rc) (i : Nat) : enB L i = ((L.take i).map frL).flatten.length := by
  unfold enB; rw [← size_list, cat_list]
theorem enB_zero (L : List Rc) : enB L 0 = 0 := by rw [enB_list]; simp
theorem enB_all (L : List Rc) : enB L L.length = (catB L).size := by unfold enB; rw [List.take_length]
theorem enB_succ {L : List Rc} {i : Nat} (h : i < L.length) (hok : okR L[i]) : enB L (i + 1) = enB L i + 5 + L[i].data.size := by
  rw [enB_list, enB_list, List.take_succ_eq_append_getElem h, List.map_append, List.flatten_append, List.length_append]
  simp only [List.map_cons, List.map_nil, List.flatten_cons, List.flatten_nil, List.append_nil]
  rw [frL_len hok]; omega
theorem cat_drop {L : List Rc} {i : Nat} (h : i < L.length) : ∃ t, (catB L).data.toList.drop (enB L i) = frL L[i] ++ t := by
  refine ⟨((L.drop (i + 1)).map frL).flatten, ?_⟩
  rw [cat_list, enB_list]
  conv => lhs; arg 2; rw [← List.take_append_drop i L, List.map_append, List.flatten_append]
  rw [List.drop_left, List.drop_eq_getElem_cons h, List.map_cons, List.flatten_cons]
theorem enB_mono (L : List Rc) (i : Nat) : enB L i ≤ (catB L).size := by
  rw [enB_list, ← size_list, cat_list]
  conv => rhs; rw [← List.take_append_drop i L, List.map_append, List.flatten_append, List.length_append]
  omega

section
variable {L : List Rc} {cut : Nat}
theorem byB_of {s : ByteArray} {e k : Nat} {l t : List UInt8} (h : s.data.toList.drop e = l ++ t) (hk : k < l.length) : byB s (e + k) = ((l[k]).toNat : Int) := by
  unfold byB
  have h1 : s.data.toList[e + k]? = some l[k] := by
    rw [← List.getElem?_drop, h, List.getElem?_append_left hk, List.getElem?_eq_getElem hk]
  rw [List.getD_eq_getElem?_getD, h1]; rfl
theorem cut_list (s : ByteArray) (c : Nat) : (s.extract 0 c).data.toList = s.data.toList.take c := by
  rw [ext_list]; simp
theorem byB_cut {s : ByteArray} {c k : Nat} (hk : k < c) : byB (s.extract 0 c) k = byB s k := by
  unfold byB
  rw [cut_list, List.getD_eq_getElem?_getD, List.getD_eq_getElem?_getD, List.getElem?_take_of_lt hk]
theorem at_frame (hok : ∀ r, r ∈ L → okR r) {i : Nat} (h : i < L.length) : szB (catB L) (enB L i) = L[i].data.size ∧ psB (catB L) (enB L i) = L[i].pos ∧ (catB L).extract (enB L i + 5) (enB L i + 5 + L[i].data.size) = L[i].data := by
  have ho := hok _ (List.getElem_mem h)
  obtain ⟨t, ht⟩ := cat_drop h
  have hd := of_decide_eq_true ho
  generalize L[i] = r at *
  have hl := frL_len ho
  rw [frL_ok ho] at ht
  have g : ∀ k (hk : k < 5 + r.data.size), byB (catB L) (enB L i + k) = ((([hb (r.data.size / 256), hb (r.data.size % 256), hb (r.pos / 65536), hb (r.pos / 256 % 256), hb (r.pos % 256)] ++ r.data.data.toList)[k]'(by rw [List.length_append, size_list]; simpa using hk)).toNat : Int) := fun k hk => byB_of ht _
  have g0 := g 0 (by omega); have g1 := g 1 (by omega); have g2 := g 2 (by omega); have g3 := g 3 (by omega); have g4 := g 4 (by omega)
  simp only [List.cons_append, List.nil_append, List.getElem_cons_zero, List.getElem_cons_succ, Nat.add_zero] at g0 g1 g2 g3 g4
  rw [hb_nat (by omega) (by omega)] at g0 g1 g2 g3 g4
  refine ⟨?_, ?_, ?_⟩
  · unfold szB; rw [g0, g1]; omega
  · unfold psB; rw [g2, g3, g4]; omega
  · apply ba_inj
    rw [ext_list, ← List.drop_drop, ht]
    rw [show enB L i + 5 + r.data.size - (enB L i + 5) = r.data.size by omega]
    simp
theorem frs_cut (hok : ∀ r, r ∈ L → okR r) (hc : cut ≤ (catB L).size) {n : Nat} (hn : n ≤ L.length) (h1 : enB L n ≤ cut) (h2 : n < L.length → cut < enB L (n + 1)) :
    frs ((catB L).extract 0 cut) 0 = (L.take n, enB L n) := by
  have hsz : ((catB L).extract 0 cut).size = cut := by rw [ByteArray.size_extract]; omega
  have hmono : ∀ j, j ≤ n → enB L j ≤ enB L n := by
    intro j hj
    rw [enB_list, enB_list]
    have : L.take n = L.take j ++ (L.take n).drop j := by
      conv => lhs; rw [← List.take_append_drop j (L.take n)]
      rw [List.take_take, Nat.min_eq_left hj]
    rw [this, List.map_append, List.flatten_append, List.length_append]; omega
  have key : ∀ (k j : Nat), j + k = n → frs ((catB L).extract 0 cut) (enB L j) = ((L.take n).drop j, enB L n) := by
    intro k
    induction k with
    | zero =>
      intro j hj
      obtain rfl : j = n := by omega
      have hw : ¬ whB ((catB L).extract 0 cut) (enB L j) := by
        intro hw
        have hw1 := hw.1; have hw4 := hw.2.2.2
        rw [hsz] at hw1 hw4
        by_cases hl : j < L.length
        · have hf := at_frame hok hl
          have hs : szB ((catB L).extract 0 cut) (enB L j) = szB (catB L) (enB L j) := by unfold szB; rw [byB_cut (by omega), byB_cut (by omega)]
          rw [hs, hf.1] at hw4
          have := h2 hl
          rw [enB_succ hl (hok _ (List.getElem_mem hl))] at this
          omega
        · have : j = L.length := by omega
          subst this
          rw [enB_all] at hw1
          omega
      rw [frs_no hw]
      simp
    | succ k ih =>
      intro j hj
      have hl : j < L.length := by omega
      have hok' := hok _ (List.getElem_mem hl)
      have hf := at_frame hok hl
      have hsu := enB_succ hl hok'
      have hm := hmono (j + 1) (by omega)
      have hs : szB ((catB L).extract 0 cut) (enB L j) = szB (catB L) (enB L j) := by unfold szB; rw [byB_cut (by omega), byB_cut (by omega)]
      have hp : psB ((catB L).extract 0 cut) (enB L j) = psB (catB L) (enB L j) := by unfold psB; rw [byB_cut (by omega), byB_cut (by omega), byB_cut (by omega)]
      have hd := of_decide_eq_true hok'
      have hw : whB ((catB L).extract 0 cut) (enB L j) := ⟨by rw [hsz]; omega, by rw [hs, hf.1]; omega, by rw [hp, hf.2.1]; exact ⟨hd.1, hd.2.1⟩, by rw [hs, hf.1, hsz]; omega⟩
      have hnx : enB L j + 5 + (szB ((catB L).extract 0 cut) (enB L j)).toNat = enB L (j + 1) := by rw [hs, hf.1, hsu]; omega
      have hrc : rcB ((catB L).extract 0 cut) (enB L j) = L[j] := by
        unfold rcB
        rw [hp, hf.2.1, hs, hf.1]
        have : ((catB L).extract 0 cut).extract (enB L j + 5) (enB L j + 5 + ((L[j].data.size : Nat) : Int).toNat) = L[j].data := by
          refine Eq.trans ?_ hf.2.2
          apply ba_inj
          rw [ext_list, cut_list, ext_list, List.drop_take, List.take_take, Int.toNat_natCast]
          congr 1
          omega
        rw [this]
      rw [frs_yes hw, hnx, hrc, ih (j + 1) (by omega)]
      simp only
      rw [List.drop_eq_getElem_cons (l := L.take n) (i := j) (by rw [List.length_take]; omega), List.getElem_take]
  have := key n 0 (by omega)
  rw [enB_zero] at this
  rw [this, List.drop_zero]
end
end Go.Proofs.Ytkmjhcidafkflaa

/- The walk of the law's own eqStringS: two slices of the same strings are the same. No conditions. -/

namespace Go.Proofs.Ytkmjhcidafkflaa
open Go Go.RowKit

end Go.Proofs.Ytkmjhcidafkflaa

/- The walks of szStringS, toStringS, eqStringS: what they answer, and that they turn nothing that was there. No conditions but toStringS's on the number of strings. -/

namespace Go.Proofs.Ytkmjhcidafkflaa
open Go Go.RowKit

end Go.Proofs.Ytkmjhcidafkflaa

/- The walks of the specification's l6Has, l41Find: what they answer; they turn nothing. No conditions. -/

namespace Go.Proofs.Ytkmjhcidafkflaa
open Go Go.RowKit

/-- Two texts are the same. -/
def sameB (y x : ByteArray) : Bool := y.toList == x.toList
def hasB (ss : List ByteArray) (x : ByteArray) : Bool := ss.any fun y => sameB y x
theorem hasB_yes {ss : List ByteArray} {x : ByteArray} (k : Nat) (hk : k < ss.length) (h : sameB ss[k] x = true) : hasB ss x = true := by
  unfold hasB; rw [List.any_eq_true]; exact ⟨ss[k], List.getElem_mem hk, h⟩
theorem hasB_no {ss : List ByteArray} {x : ByteArray} (h : ∀ j, (hj : j < ss.length) → sameB ss[j] x = false) : hasB ss x = false := by
  unfold hasB
  rw [List.any_eq_false]
  intro y hy
  obtain ⟨j, hj, rfl⟩ := List.getElem_of_mem hy
  rw [h j hj]; decide

/-- The place of a file. -/
def findF (fs : List Df) (x : ByteArray) : Int := match fs.findIdx? (fun f => sameB f.name x) with | some i => i | none => -1
theorem findF_yes {fs : List Df} {x : ByteArray} (k : Nat) (hk : k < fs.length) (h : sameB fs[k].name x = true) (hno : ∀ j, j < k → (hj : j < fs.length) → sameB fs[j].name x = false) : findF fs x = k := by
  unfold findF
  have : fs.findIdx? (fun f => sameB f.name x) = some k := by
    rw [List.findIdx?_eq_some_iff_getElem]
    exact ⟨hk, h, fun j hj => by rw [hno j hj (by omega)]; decide⟩
  rw [this]
theorem findF_no {fs : List Df} {x : ByteArray} (hno : ∀ j, (hj : j < fs.length) → sameB fs[j].name x = false) : findF fs x = -1 := by
  unfold findF
  have : fs.findIdx? (fun f => sameB f.name x) = none := by
    rw [List.findIdx?_eq_none_iff]
    intro f hf
    obtain ⟨j, hj, rfl⟩ := List.getElem_of_mem hf
    exact hno j hj
  rw [this]

end Go.Proofs.Ytkmjhcidafkflaa
