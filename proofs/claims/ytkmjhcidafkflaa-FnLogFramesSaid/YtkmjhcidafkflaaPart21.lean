/- The walks of the specification's DrawLogRecords and of the law's loRecords. No conditions. -/
import Derived.Test.YtkmjhcidafkflaaPart20
import Derived.Handy
import Derived.BigQuiet
namespace Go.Proofs.Ytkmjhcidafkflaa
open Go Go.RowKit

/-- Records have been drawn from bytes. -/
def FrDn (w w' : World) (e : Ending) : Prop :=
  ∃ (L : List Rc) (vL : Value) (F : List Nat), e = .returned (.tuple #[vL, .string (catB L)]) ∧ L.length ≤ 5 ∧ (∀ r, r ∈ L → okR r) ∧ (∃ a cap, vL = .slice a L.length cap ∧ L.length ≤ cap) ∧ RcsOwn w' vL L F ∧ (∀ b, b ∈ F → w.heap.size ≤ b ∧ b < w'.heap.size) ∧ Below w.heap.size w w'
set_option maxHeartbeats 800000 in
theorem drawLogRecords_any (w : World) (a : Option Addr) (cap : Nat) (l : List UInt8) (hv : BytesAt w (.slice a l.length cap) l) (hcap : l.length ≤ cap) :
    Calls Try.prog 6 #[.slice a l.length cap] w fun e w' => FrDn w w' e := by
  have HO := hide (l6Open_any w a cap l hv hcap)
  clear hv
  go_enter Try.func6, Try.ntmps6
  go_wp2_with fail
  refine (unhide HO).mono ?_
  rintro e w1 ⟨v1, b1, rfl, hd, hb⟩
  have HF := hide (l45Frames_any w.heap.size w1 v1 b1 hd)
  have HB := hide hb
  have hs := hb.size
  clear hd hb HO
  go_wp2_with fail
  refine (unhide HF).mono ?_
  rintro e w2 ⟨L, vL, F, rfl, hl, hok, hcp, ho, hF, hbt⟩
  have HH := hide (show FrDn w w2 (.returned (.tuple #[vL, .string (catB L)])) from ⟨L, vL, F, rfl, hl, hok, hcp, ho, fun b hb => ⟨by have := (hF b hb).1; omega, (hF b hb).2⟩, (unhide HB).trans ⟨hbt.os, hbt.tape, hbt.output, hbt.size, fun k hk => hbt.at (by omega) (by omega)⟩⟩)
  clear hl hok hcp ho hF hbt HF HB
  go_wp2_with fail
  go_returns
  exact unhide HH

set_option maxRecDepth 100000 in
set_option maxHeartbeats 1600000 in
theorem loRecords_any (v u : Value) (fs : List Rc) (w : World) {P Q : Nat → Prop} (hP : ∀ b, P b → b < w.heap.size) (hQ : ∀ b, Q b → b < w.heap.size) (hv : RcsAt P w v fs) (hu : RcsAt Q w u fs) :
    Calls Try.prog 9 #[v, u] w fun e w' => e = .returned (.bool true) ∧ Below w.heap.size w w' := by
  obtain ⟨a, cap, rfl, hlen, hc⟩ := hv.open
  obtain ⟨a2, cap2, rfl, -, hc2⟩ := hu.open
  have HC := hide hc; have HC2 := hide hc2; have HP := hide hP; have HQ := hide hQ; clear hc hc2 hP hQ hv hu
  go_enter Try.func9, Try.ntmps9
  go_wp2_with fail
  go_loopw [5] (fun i wr => ∃ (k : Nat), k ≤ fs.length ∧ i = .int .i64 k ∧ Below w.heap.size w wr) (fun i _ => fs.length - (intOf i).toNat)
  case atStart => exact ⟨0, Nat.zero_le _, rfl, Below.refl _ _⟩
  case round =>
    obtain ⟨k, hk, rfl, hb⟩ := hrel
    by_cases hlt : k < fs.length
    · obtain ⟨b, o, rfl, hpb, h0, h1, -⟩ := unhide HC k hlt
      obtain ⟨b2, o2, rfl, hpb2, g0, g1, -⟩ := unhide HC2 k hlt
      have e0 : wr.cell? ⟨b, o + k * 2, none⟩ = some (.int .i64 fs[k].pos) := by rw [hb.cell (unhide HP b hpb)]; exact h0
      have e1 : wr.cell? ⟨b, o + k * 2 + 1, none⟩ = some (.string fs[k].data) := by rw [hb.cell (unhide HP b hpb)]; exact h1
      have f0 : wr.cell? ⟨b2, o2 + k * 2, none⟩ = some (.int .i64 fs[k].pos) := by rw [hb.cell (unhide HQ b2 hpb2)]; exact g0
      have f1 : wr.cell? ⟨b2, o2 + k * 2 + 1, none⟩ = some (.string fs[k].data) := by rw [hb.cell (unhide HQ b2 hpb2)]; exact g1
      clear h0 h1 g0 g1 hpb hpb2
      generalize fs[k] = f at *
      go_wp2_with fail
      go_region
      go_wp2_with fail
      go_roundw
      case rel => exact ⟨k + 1, by omega, by go_num, hb.drew⟩
      case measure => simp [intOf]; omega
    · go_wp2_with fail
      go_ret
      exact ⟨rfl, hb⟩
end Go.Proofs.Ytkmjhcidafkflaa
