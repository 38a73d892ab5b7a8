/- The walks of the specification's l6Has, l41Find: what they answer; they turn nothing. No conditions. -/
import Derived.Test.YtmaojhacdelleaaWStr
import Derived.Test.YtmaojhacdelleaaDkDat
import Derived.BigQuiet
namespace Go.Proofs.Ytmaojhacdelleaa
open Go Go.RowKit

/-- Two texts are the same. -/
def sameB (y x : ByteArray) : Bool := y.toList == x.toList
def hasB (ss : List ByteArray) (x : ByteArray) : Bool := ss.any fun y => sameB y x
theorem hasB_yes {ss : List ByteArray} {x : ByteArray} (k : Nat) (hk : k < ss.length) (h : sameB ss[k] x = true) : hasB ss x = true := by
  unfold hasB; rw [List.any_eq_true]; exact ⟨ss[k], List.getElem_mem hk, h⟩
theorem hasB_no {ss : List ByteArray} {x : ByteArray} (h : ∀ j, (hj : j < ss.length) → sameB ss[j] x = false) : hasB ss x = false := by
  unfold hasB
  rw [List.any_eq_false]
  intro y hy
  obtain ⟨j, hj, rfl⟩ := List.getElem_of_mem hy
  rw [h j hj]; decide

set_option maxHeartbeats 400000 in
theorem l6Has_any (v : Value) (ss : List ByteArray) (x : ByteArray) (w : World) {P : Nat → Prop} (hv : StrsAt P w v ss) :
    Calls Try.prog 40 #[v, .string x] w fun e w' => e = .returned (.bool (hasB ss x)) ∧ w' = w := by
  obtain ⟨a, cap, rfl, hlen, hc⟩ := hv
  have HC := hide hc; clear hc
  go_enter Try.func40, Try.ntmps40
  go_wp2
  go_loop [5] (fun i => ∃ (k : Nat), k ≤ ss.length ∧ i = .int .i64 k ∧ Hid (∀ j, j < k → (hj : j < ss.length) → sameB ss[j] x = false)) (fun i => ss.length - (intOf i).toNat)
  case atStart => exact ⟨0, Nat.zero_le _, rfl, fun j hj => by omega⟩
  case round =>
    obtain ⟨k, hk, rfl, HQ⟩ := hrel
    by_cases hlt : k < ss.length
    · obtain ⟨b, o, rfl, _, hcell, hsz⟩ := unhide HC k hlt
      cases e : sameB ss[k] x with
      | true =>
        have hd := hide (hasB_yes k hlt e)
        unfold sameB at e
        go_wp2
        go_ret
        exact ⟨by rw [unhide hd]; rfl, rfl⟩
      | false =>
        have HE := hide e
        unfold sameB at e
        go_wp2
        go_round
        case rel => exact ⟨k + 1, by omega, by go_num, fun j hj hjl => by
          by_cases h : j = k
          · subst h; exact unhide HE
          · exact HQ.out j (by omega) hjl⟩
        case measure => simp [intOf]; omega
    · go_wp2
      go_ret
      exact ⟨by rw [hasB_no (fun j hj => HQ.out j (by omega) hj)]; rfl, rfl⟩

/-- The place of a file. -/
def findF (fs : List Df) (x : ByteArray) : Int := match fs.findIdx? (fun f => sameB f.name x) with | some i => i | none => -1
theorem findF_yes {fs : List Df} {x : ByteArray} (k : Nat) (hk : k < fs.length) (h : sameB fs[k].name x = true) (hno : ∀ j, j < k → (hj : j < fs.length) → sameB fs[j].name x = false) : findF fs x = k := by
  unfold findF
  have : fs.findIdx? (fun f => sameB f.name x) = some k := by
    rw [List.findIdx?_eq_some_iff_getElem]
    exact ⟨hk, h, fun j hj => by rw [hno j hj (by omega)]; decide⟩
  rw [this]
theorem findF_no {fs : List Df} {x : ByteArray} (hno : ∀ j, (hj : j < fs.length) → sameB fs[j].name x = false) : findF fs x = -1 := by
  unfold findF
  have : fs.findIdx? (fun f => sameB f.name x) = none := by
    rw [List.findIdx?_eq_none_iff]
    intro f hf
    obtain ⟨j, hj, rfl⟩ := List.getElem_of_mem hf
    exact hno j hj
  rw [this]

set_option maxHeartbeats 400000 in
theorem l41Find_any (v : Value) (fs : List Df) (x : ByteArray) (w : World) {P : Nat → Prop} (hv : FsAt P w v fs) :
    Calls Try.prog 36 #[v, .string x] w fun e w' => e = .returned (.int .i64 (findF fs x)) ∧ w' = w := by
  obtain ⟨a, cap, rfl, hlen, hc⟩ := hv.open
  have HC := hide hc; clear hc hv
  go_enter Try.func36, Try.ntmps36
  go_wp2
  go_loop [5] (fun i => ∃ (k : Nat), k ≤ fs.length ∧ i = .int .i64 k ∧ Hid (∀ j, j < k → (hj : j < fs.length) → sameB fs[j].name x = false)) (fun i => fs.length - (intOf i).toNat)
  case atStart => exact ⟨0, Nat.zero_le _, rfl, fun j hj => by omega⟩
  case round =>
    obtain ⟨k, hk, rfl, HQ⟩ := hrel
    by_cases hlt : k < fs.length
    · obtain ⟨b, o, rfl, _, ⟨hcell, -, -⟩, -⟩ := unhide HC k hlt
      simp only at hcell
      cases e : sameB fs[k].name x with
      | true =>
        have hd := hide (findF_yes k hlt e HQ.out)
        unfold sameB at e
        go_wp2
        go_ret
        exact ⟨by rw [unhide hd]; rfl, rfl⟩
      | false =>
        have HE := hide e
        unfold sameB at e
        go_wp2
        go_round
        case rel => exact ⟨k + 1, by omega, by go_num, fun j hj hjl => by
          by_cases h : j = k
          · subst h; exact unhide HE
          · exact HQ.out j (by omega) hjl⟩
        case measure => simp [intOf]; omega
    · go_wp2
      go_ret
      exact ⟨by rw [findF_no (fun j hj => HQ.out j (by omega) hj)]; rfl, rfl⟩
end Go.Proofs.Ytmaojhacdelleaa
