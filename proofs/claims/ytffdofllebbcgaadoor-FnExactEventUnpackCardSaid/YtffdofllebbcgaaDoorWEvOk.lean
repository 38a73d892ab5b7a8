/- The walks of the specification's EventOk and the program's. Conditions: the table treeFields is as the program lays it (for the program's). -/
import Derived.Test.YtffdofllebbcgaaDoorMerged10
import Derived.Test.YtffdofllebbcgaaDoorMerged33
import Derived.Test.YtffdofllebbcgaaDoorMerged34
import Derived.Test.YtffdofllebbcgaaDoorMerged07
namespace Go.Proofs.YtffdofllebbcgaaDoor
open Go Go.RowKit

/-- Whether an event is ok. -/
def evOkB (ty : ByteArray) (ver : Int) (t : Tr) : Bool := nameOkB ty && decide (1 ≤ ver ∧ ver ≤ 12) && decide (t.sort = 5) && decide (0 < pT t 1)

set_option maxRecDepth 100000 in
set_option maxHeartbeats 1600000 in
theorem specEventOk_any (ty : ByteArray) (ver : Int) (t : Tr) (P : Nat → Prop) (c : C5) (w : World) (hP : ∀ b, P b → b < w.heap.size) (hrep : Rep P w t c) (hty : ty.size ≤ 9223372036854775807) (_hver : I64 ver) :
    Calls Tryd.prog 7 #[.agg #[.string ty, .int .i64 ver, c.c0, c.c1, c.c2, c.c3, c.c4]] w fun e w' => e = .returned (.bool (evOkB ty ver t)) ∧ Below w.heap.size w w' := by
  obtain ⟨c0, c1, c2, c3, c4⟩ := c
  have hbx : ∀ o, Below w.heap.size w (w.alloc o) := fun o => (Below.refl _ _).alloc (Nat.le_refl _) o
  have hn := fun W => l6NameOk_any ty W hty
  have hin := fun W => l6In_any ver 1 12 W
  have hok := fun (W : World) (hW : Below w.heap.size w W) => specTreeOk_any t P ⟨c0, c1, c2, c3, c4⟩ W (fun b hb => Nat.lt_of_lt_of_le (hP b hb) hW.size) (Rep.carry (fun b hb => hW.block b (hP b hb)) (fun _ h => h) _ _ hrep)
  obtain ⟨e0, -, -, his, -⟩ := hrep.open
  simp only at e0
  subst e0
  have HV := hide (show evOkB ty ver t = (nameOkB ty && decide (1 ≤ ver ∧ ver ≤ 12) && decide (t.sort = 5) && decide (0 < pT t 1)) from rfl)
  generalize evOkB ty ver t = res at *
  generalize nameOkB ty = b1 at *
  generalize decide (1 ≤ ver ∧ ver ≤ 12) = b2 at *
  generalize decide (0 < pT t 1) = b4 at *
  have HN := hide hn; have HIN := hide hin; have HOK := hide hok; have HBX := hide hbx
  clear hn hin hok hbx hP hrep
  generalize t.sort = srt at *
  cases b1 with
  | false =>
    go_enter Tryd.func7, Tryd.ntmps7
    go_wp2_with (go_at_call 22; refine (unhide HN _).mono ?_; rintro e w' ⟨rfl, rfl⟩)
    go_ret
    exact ⟨by rw [unhide HV]; simp, unhide HBX _⟩
  | true =>
    cases b2 with
    | false =>
      go_enter Tryd.func7, Tryd.ntmps7
      go_wp2_with (first
        | (go_at_call 22; refine (unhide HN _).mono ?_; rintro e w' ⟨rfl, rfl⟩)
        | (go_at_call 23; refine (unhide HIN _).mono ?_; rintro e w' ⟨rfl, rfl⟩))
      go_ret
      exact ⟨by rw [unhide HV]; simp, unhide HBX _⟩
    | true =>
      by_cases h5 : srt = 5
      · subst h5
        go_enter Tryd.func7, Tryd.ntmps7
        go_wp2_with (first
          | (go_at_call 22; refine (unhide HN _).mono ?_; rintro e w' ⟨rfl, rfl⟩)
          | (go_at_call 23; refine (unhide HIN _).mono ?_; rintro e w' ⟨rfl, rfl⟩)
          | (go_at_call 24; refine (unhide HOK _ (unhide HBX _)).mono ?_; rintro e w' ⟨rfl, hb⟩))
        go_ret
        exact ⟨by rw [unhide HV]; simp, (unhide HBX _).trans (hb.mono (unhide HBX _).size)⟩
      · have h5' : (srt == 5) = false := by simpa using h5
        have HS := hide h5
        clear h5
        go_enter Tryd.func7, Tryd.ntmps7
        go_wp2_with (first
          | (go_at_call 22; refine (unhide HN _).mono ?_; rintro e w' ⟨rfl, rfl⟩)
          | (go_at_call 23; refine (unhide HIN _).mono ?_; rintro e w' ⟨rfl, rfl⟩))
        go_ret
        exact ⟨by rw [unhide HV]; simp [unhide HS], unhide HBX _⟩

set_option maxRecDepth 100000 in
set_option maxHeartbeats 1600000 in
theorem implEventOk_any (ty : ByteArray) (ver : Int) (t : Tr) (P : Nat → Prop) (c : C5) (w : World) (hP : ∀ b, P b → b < w.heap.size) (hrep : Rep P w t c) (hty : ty.size ≤ 9223372036854775807) (_hver : I64 ver) (hT : Tab w) :
    Calls Tryd.prog 9 #[.agg #[.string ty, .int .i64 ver, c.c0, c.c1, c.c2, c.c3, c.c4]] w fun e w' => e = .returned (.bool (evOkB ty ver t)) ∧ Below w.heap.size w w' := by
  obtain ⟨c0, c1, c2, c3, c4⟩ := c
  have hbx : ∀ o, Below w.heap.size w (w.alloc o) := fun o => (Below.refl _ _).alloc (Nat.le_refl _) o
  have hn := fun W => nameOk_any ty W hty
  have hok := fun (W : World) (hW : Below w.heap.size w W) => implTreeOk_any t P ⟨c0, c1, c2, c3, c4⟩ W (fun b hb => Nat.lt_of_lt_of_le (hP b hb) hW.size) (Rep.carry (fun b hb => hW.block b (hP b hb)) (fun _ h => h) _ _ hrep) (hT.of_block (hW.block 0 hT.lt))
  obtain ⟨e0, -, -, his, -⟩ := hrep.open
  simp only at e0
  subst e0
  have HV := hide (show evOkB ty ver t = (nameOkB ty && decide (1 ≤ ver ∧ ver ≤ 12) && decide (t.sort = 5) && decide (0 < pT t 1)) from rfl)
  generalize evOkB ty ver t = res at *
  generalize nameOkB ty = b1 at *
  generalize decide (0 < pT t 1) = b4 at *
  have HN := hide hn; have HOK := hide hok; have HBX := hide hbx
  clear hn hok hbx hP hrep hT
  generalize t.sort = srt at *
  cases b1 with
  | false =>
    go_enter Tryd.func9, Tryd.ntmps9
    go_wp2_with (go_at_call 26; refine (unhide HN _).mono ?_; rintro e w' ⟨rfl, rfl⟩)
    go_ret
    exact ⟨by rw [unhide HV]; simp, unhide HBX _⟩
  | true =>
    by_cases h1 : 1 ≤ ver
    · by_cases h2 : ver ≤ 12
      · by_cases h5 : srt = 5
        · subst h5
          go_enter Tryd.func9, Tryd.ntmps9
          go_wp2_with (first
            | (go_at_call 26; refine (unhide HN _).mono ?_; rintro e w' ⟨rfl, rfl⟩)
            | (go_at_call 27; refine (unhide HOK _ (unhide HBX _)).mono ?_; rintro e w' ⟨rfl, hb⟩))
          go_ret
          exact ⟨by rw [unhide HV]; simp [h1, h2], (unhide HBX _).trans (hb.mono (unhide HBX _).size)⟩
        · have h5' : (srt == 5) = false := by simpa using h5
          have HS := hide h5
          clear h5
          go_enter Tryd.func9, Tryd.ntmps9
          go_wp2_with (go_at_call 26; refine (unhide HN _).mono ?_; rintro e w' ⟨rfl, rfl⟩)
          go_ret
          exact ⟨by rw [unhide HV]; simp [unhide HS], unhide HBX _⟩
      · go_enter Tryd.func9, Tryd.ntmps9
        go_wp2_with (go_at_call 26; refine (unhide HN _).mono ?_; rintro e w' ⟨rfl, rfl⟩)
        go_ret
        exact ⟨by rw [unhide HV]; simp; intros; omega, unhide HBX _⟩
    · go_enter Tryd.func9, Tryd.ntmps9
      go_wp2_with (go_at_call 26; refine (unhide HN _).mono ?_; rintro e w' ⟨rfl, rfl⟩)
      go_ret
      exact ⟨by rw [unhide HV]; simp; intros; omega, unhide HBX _⟩
end Go.Proofs.YtffdofllebbcgaaDoor
