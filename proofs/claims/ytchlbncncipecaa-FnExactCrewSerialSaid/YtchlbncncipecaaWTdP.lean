/- The walks of the program's crewJobsOk, itemsOf, doneJob. No conditions. -/
import Derived.Test.YtchlbncncipecaaTdSt
import Derived.WideLaws
namespace Go.Proofs.Ytchlbncncipecaa
open Go Go.RowKit

set_option maxRecDepth 100000 in
set_option maxHeartbeats 1600000 in
theorem crewJobsOk_any (js : List Jb) (P : Nat → Prop) (v : Value) (w : World) (hP : ∀ b, P b → b < w.heap.size) (hv : JbsAt P w v js) :
    Calls Try.prog 61 #[v] w fun e w' => e = .returned (.bool (jsOk js)) ∧ Below w.heap.size w w' := by
  obtain ⟨a, cap, rfl, hlen, hc⟩ := hv
  have HC := hide hc; have HP := hide hP; clear hc hP
  by_cases h60 : js.length ≤ 60
  · have hd : decide ((60 : Int) < (js.length : Int)) = false := by simp; omega
    have HN := hide (fun (k : Nat) (hk : k < js.length) (hj : jOk js[k] = false) => (show jsOk js = false by unfold jsOk; rw [all_falseJ hk hj, Bool.and_false]))
    go_enter Try.func61, Try.ntmps61
    go_wp2_with fail
    go_loopw [10] (fun i wr => ∃ (k : Nat), k ≤ js.length ∧ i = .int .i64 k ∧ Hid ((js.take k).all jOk = true) ∧ Hid (Below w.heap.size w wr)) (fun i _ => js.length - (intOf i).toNat)
    case atStart => exact ⟨0, Nat.zero_le _, rfl, hide rfl, hide (Below.refl _ _)⟩
    case round =>
      obtain ⟨k, hk, rfl, HA, HB⟩ := hrel
      by_cases hlt : k < js.length
      · obtain ⟨b, o, rfl, hpb, au, cu, hc0, hc1, hz, hbad⟩ := unhide HC k hlt
        have e0 : wr.cell? ⟨b, o + k * 2, none⟩ = some (.slice au js[k].items.length cu) := by rw [HB.out.cell (unhide HP b hpb)]; exact hc0
        have e1 : wr.cell? ⟨b, o + k * 2 + 1, none⟩ = some (.int .i64 js[k].bad) := by rw [HB.out.cell (unhide HP b hpb)]; exact hc1
        have HTK := hide (all_takeJ hlt jOk); have HNK := hide (unhide HN k hlt)
        have hil := hz.choose_spec.choose_spec.2.1
        have HBX := hide (fun o => (HB.out.alloc HB.out.size o : Below w.heap.size w (wr.alloc o)))
        clear hz hpb hbad hc0 hc1
        generalize js[k] = jb at *
        by_cases h1 : 0 ≤ jb.bad
        · by_cases h2 : jb.items.length ≤ 40
          · have HJ := hide (show jOk jb = true by unfold jOk; rw [decide_eq_true h1, decide_eq_true h2]; rfl)
            have d1 : decide (jb.bad < 0) = false := by simp; omega
            have d2 : decide ((40 : Int) < (jb.items.length : Int)) = false := by simp; omega
            clear h1 h2
            go_wp2_with fail
            go_roundw
            case rel => exact ⟨k + 1, by omega, by go_num, hide (by rw [unhide HTK, HA.out, unhide HJ]; rfl), unhide HBX _⟩
            case measure => simp [intOf]; omega
          · have HR := hide (unhide HNK (by unfold jOk; rw [decide_eq_false h2, Bool.and_false]))
            have d1 : decide (jb.bad < 0) = false := by simp; omega
            have d2 : decide ((40 : Int) < (jb.items.length : Int)) = true := by simp; omega
            clear h1 h2
            go_wp2_with fail
            go_ret
            exact ⟨by (rw [unhide HR]; rfl), unhide HBX _⟩
        · have HR := hide (unhide HNK (by unfold jOk; rw [decide_eq_false h1, Bool.false_and]))
          have d1 : decide (jb.bad < 0) = true := by simp; omega
          clear h1
          go_wp2_with fail
          go_ret
          exact ⟨by (rw [unhide HR]; rfl), unhide HBX _⟩
      · obtain rfl : k = js.length := by omega
        have hall := HA.out
        rw [List.take_length] at hall
        have HR := hide (show jsOk js = true by unfold jsOk; rw [hall, decide_eq_true h60]; rfl)
        clear hall
        go_wp2_with fail
        go_ret
        exact ⟨by (rw [unhide HR]; rfl), HB.out⟩
  · have hd : decide ((60 : Int) < (js.length : Int)) = true := by simp; omega
    have HR := hide (show jsOk js = false by unfold jsOk; rw [decide_eq_false h60, Bool.false_and])
    clear h60
    go_enter Try.func61, Try.ntmps61
    go_wp2_with fail
    go_ret
    exact ⟨by (rw [unhide HR]; rfl), Below.refl _ _⟩

/-- A bad job raises this. -/
abbrev bjE (b : Int) : Ending := .panicked [{ v := .iface 123 (.agg #[.int .i64 b]), recovered := false }]
set_option maxHeartbeats 400000 in
theorem itemsOf_yes (a : Option Addr) (n c : Nat) (w : World) : Calls Try.prog 102 #[.agg #[.slice a n c, .int .i64 0]] w fun e w' => e = .returned (.slice a n c) ∧ Below w.heap.size w w' := by
  go_enter Try.func102, Try.ntmps102
  go_wp2_with fail
  go_ret
  exact ⟨rfl, (Below.refl _ _).alloc (Nat.le_refl _) _⟩
set_option maxHeartbeats 400000 in
theorem itemsOf_no (a : Option Addr) (n c : Nat) (b : Int) (hb : b ≠ 0) (w : World) : Calls Try.prog 102 #[.agg #[.slice a n c, .int .i64 b]] w fun e w' => e = bjE b ∧ Below w.heap.size w w' := by
  have hne : (b != 0) = true := by simp [hb]
  go_enter Try.func102, Try.ntmps102
  go_wp2_with fail
  exact ⟨rfl, rfl, (Below.refl _ _).alloc (Nat.le_refl _) _⟩
end Go.Proofs.Ytchlbncncipecaa
