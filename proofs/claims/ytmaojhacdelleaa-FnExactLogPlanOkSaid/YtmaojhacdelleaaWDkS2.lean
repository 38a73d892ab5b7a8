/- The walks of the specification's l41Without, l41Made, l41After: names in new memory. Conditions: at most 3000 names. -/
import Derived.Test.YtmaojhacdelleaaWDkS1
import Derived.Test.YtmaojhacdelleaaRow
import Derived.Test.YtmaojhacdelleaaKL3
import Derived.Test.YtmaojhacdelleaaFirst
import Derived.Deep.AppendLies
namespace Go.Proofs.Ytmaojhacdelleaa
open Go Go.RowKit

theorem infoStrM : (Try.prog.info? 9).map (fun i => (i.zero, i.size, i.bytes)) = some (some (.string ByteArray.empty), 1, 16) := by kernel_rfl
theorem infoStrD : ∃ i, Try.prog.info? 9 = some i ∧ i.zero = some (.string ByteArray.empty) ∧ i.size = 1 ∧ i.bytes = 16 := by
  have := infoStrM
  cases h : Try.prog.info? 9 with
  | none => rw [h] at this; simp at this
  | some i => rw [h] at this; exact ⟨i, rfl, by simpa using this⟩
theorem below_grown {n : Nat} {w a b : World} {row : Option Nat} (hn : n ≤ a.heap.size) (h : Below n w a) (hg : a.grownBy b row) (hr : ∀ x, row = some x → n ≤ x) : Below n w b :=
  h.trans ⟨hg.os, hg.tape, hg.output, hg.size, fun k hk => hg.block k (Nat.lt_of_lt_of_le hk hn) (fun e => by have := hr k e.symm; omega)⟩
theorem strsAt_own {base : Nat} {w : World} {v : Value} {ss : List ByteArray} (h : w.ownsRow base 9 1 v ss.length (ss.map Value.string)) (hs : ∀ x, x ∈ ss → x.size ≤ 9223372036854775807) : StrsAt (fun b => base ≤ b ∧ b < w.heap.size) w v ss := by
  obtain ⟨F, hst, -, hF, -⟩ := strsOwn_of_row h hs
  exact hst.at.carry (fun _ _ => rfl) (fun x hx => hF x hx)

/-- Names without one. -/
def withoutB (ss : List ByteArray) (x : ByteArray) : List ByteArray := ss.filter fun y => !sameB y x
theorem without_take {ss : List ByteArray} {x : ByteArray} {k : Nat} (hk : k < ss.length) : withoutB (ss.take (k + 1)) x = withoutB (ss.take k) x ++ (if sameB ss[k] x then [] else [ss[k]]) := by
  unfold withoutB
  rw [List.take_succ_eq_append_getElem hk, List.filter_append]
  congr 1
  cases h : sameB ss[k] x <;> simp [h]

set_option maxHeartbeats 1600000 in
theorem l41Without_any (v : Value) (ss : List ByteArray) (x : ByteArray) (w : World) {P : Nat → Prop} (hP : ∀ b, P b → b < w.heap.size) (hv : StrsAt P w v ss) (h1 : ss.length ≤ 3000) :
    Calls Try.prog 94 #[v, .string x] w fun e w' => ∃ a n cap, e = .returned (.slice a n cap) ∧ n = (withoutB ss x).length ∧ Hid (w'.ownsRow w.heap.size 9 1 (.slice a n cap) n ((withoutB ss x).map Value.string)) ∧ Below w.heap.size w w' := by
  obtain ⟨a, cap, rfl, hlen, hc⟩ := hv
  obtain ⟨j0, hj, hy0, hy1, hy2⟩ := infoStrD
  have HJJ := hide hj; have HY0 := hide hy0; have HY1 := hide hy1; have HY2 := hide hy2
  have HC := hide hc; have HP := hide hP; clear hc hP hj hy0 hy1 hy2
  have HEMP := hide (empty_row (base := w.heap.size) (size := 1) (World.rowIs_alloc w #[] 9 (fun _ => .bool false) (fun i hi => by simp at hi)) (Nat.le_refl _))
  go_enter Try.func94, Try.ntmps94
  go_wp2_with fail
  go_loopw [5, 6] (fun vo i wr => ∃ (k n : Nat) (ao : Option Addr) (co : Nat), k ≤ ss.length ∧ n ≤ k ∧ i = .int .i64 k ∧ vo = .slice ao n co ∧ Hid (n = (withoutB (ss.take k) x).length ∧ wr.ownsRow w.heap.size 9 1 (.slice ao n co) n ((withoutB (ss.take k) x).map Value.string)) ∧ Below w.heap.size w wr) (fun _ i _ => ss.length - (intOf i).toNat)
  case atStart => exact ⟨0, 0, _, _, Nat.zero_le _, Nat.le_refl _, rfl, rfl, ⟨by simp [withoutB], by simpa [withoutB] using unhide HEMP⟩, (Below.refl _ _).alloc (Nat.le_refl _) _⟩
  case round =>
    clear HEMP
    obtain ⟨k, n, ao, co, hk, hnk, rfl, rfl, HQ, hb⟩ := hrel
    by_cases hlt : k < ss.length
    · obtain ⟨b, o, rfl, hpb, hcell0, hsz⟩ := unhide HC k hlt
      have hcell : wr.cell? ⟨b, o + k, none⟩ = some (.string ss[k]) := by rw [hb.cell (unhide HP b hpb)]; exact hcell0
      have HT := hide (without_take (x := x) hlt)
      have hbs := hb.size
      clear hcell0 hpb
      cases e : sameB ss[k] x with
      | true =>
        rw [e] at HT
        unfold sameB at e
        have HB := hide hb; clear hb
        go_wp2_with fail
        go_roundw
        case rel => exact ⟨k + 1, n, ao, co, by omega, by omega, by go_num, rfl, hide (by rw [unhide HT]; simpa using HQ.out), unhide HB⟩
        case measure => simp [intOf]; omega
      | false =>
        rw [e] at HT
        unfold sameB at e
        have HB := hide hb; clear hb
        generalize ss[k] = y at *
        go_wp2_with (at_builtin; (refine append_row _ rfl _ _ 23 rfl w.heap.size 9 j0 (.string ByteArray.empty) 1 16 Try.underlying23 (unhide HJJ) (unhide HY0) (unhide HY1) (unhide HY2) rfl (by decide) (.slice ao n co) n ((withoutB (ss.take k) x).map Value.string) rfl (World.ownsRow.alloc HQ.out.2 _) ⟨wr.heap.size, 0, none⟩ 1 1 [.string y] rfl rfl (cell_one wr _ _) (fun u hu => by simp at hu; subst hu; rfl) (by decide) (by unfold maxLen; omega) (by omega) (by simp; omega) ?_; intro v' w5 hown5 hgrow5 hat5; obtain ⟨g5, cap5, rfl, -, -⟩ := hown5.form (by omega); have HO5 := hide hown5; have HB5 := hide (below_grown (by simp; omega) ((unhide HB).alloc (unhide HB).size (.cells #[.string y] 9)) hgrow5 (fun b e => (HQ.out.2.lt b e).1)); clear hown5 hgrow5 hat5))
        go_roundw
        case rel => exact ⟨k + 1, n + 1, some ⟨g5, 0, none⟩, cap5, by omega, by omega, by go_num, rfl, hide (by
          rw [unhide HT]
          refine ⟨by have := HQ.out.1; simp; omega, ?_⟩
          have := unhide HO5
          simpa using this), unhide HB5⟩
        case measure => simp [intOf]; omega
    · go_wp2_with fail
      go_ret
      have hq := HQ.out
      rw [List.take_of_length_le (by omega)] at hq
      exact ⟨ao, n, co, rfl, hq.1, hide hq.2, hb⟩
end Go.Proofs.Ytmaojhacdelleaa
