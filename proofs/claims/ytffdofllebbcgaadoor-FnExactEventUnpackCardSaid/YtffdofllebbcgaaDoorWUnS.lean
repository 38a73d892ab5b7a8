/- The specification's reader of bytes in memory, and the walks of its one, short. No conditions. -/
import Derived.Test.YtffdofllebbcgaaDoorWUnP
import Derived.Deep.RegionWith
import Derived.Deep.RegionLaw
namespace Go.Proofs.YtffdofllebbcgaaDoor
open Go Go.RowKit

/-- The specification's reader: the bytes, the place, whether something was bad. -/
structure SR (R : Nat) (w : World) (v : Value) (b : List UInt8) (a : Nat) (bad : Bool) : Prop where
  cells : w.rowIs R 66 3 (row3 v (.int .i64 a) (.bool bad))
  row : ByRow 0 w v b
  own : ∀ g, v.ownBlock = some g → g < R
  le : a ≤ b.length
  small : b.length ≤ 1048576

theorem SR.but {R : Nat} {w w' : World} {v : Value} {b : List UInt8} {a a' : Nat} {bad bad' : Bool} (h : SR R w v b a bad) (hb : But R w w') (hc : w'.rowIs R 66 3 (row3 v (.int .i64 a') (.bool bad'))) (hle : a' ≤ b.length) : SR R w' v b a' bad' :=
  ⟨hc, World.ownsRow.kept h.row hb (by
    rcases e : v.ownBlock with _ | g
    · exact Or.inl rfl
    · exact Or.inr (fun e2 => by have := h.own g e; simp at e2; omega)), h.own, hle, h.small⟩
theorem SR.on {R : Nat} {w w' : World} {v : Value} {b : List UInt8} {a : Nat} {bad : Bool} (h : SR R w v b a bad) (hb : Below w.heap.size w w') : SR R w' v b a bad :=
  ⟨h.cells.of_block (hb.block _ h.cells.lt), h.row.stay hb, h.own, h.le, h.small⟩
theorem row3_set1 {w : World} {B : Nat} {T : TypeId} {x y z : Value} (h : w.rowIs B T 3 (row3 x y z)) (v : Value) : (w.setCell ⟨B, 1, none⟩ v).rowIs B T 3 (row3 x v z) :=
  (h.set 1 v).congr fun i hi => by
    rcases (show i = 0 ∨ i = 1 ∨ i = 2 by omega) with rfl | rfl | rfl <;> rfl

set_option maxRecDepth 100000 in
set_option maxHeartbeats 1600000 in
theorem one_yes (R : Nat) (w : World) (v : Value) (b : List UInt8) (a : Nat) (bad : Bool) (h : SR R w v b a bad) (hlt : a < b.length) :
    Calls Tryd.prog 37 #[.pointer (some ⟨R, 0, none⟩)] w fun e w' => e = .returned (.int .i64 (b[a].toNat : Int)) ∧ SR R w' v b (a + 1) bad ∧ But R w w' := by
  have k0 := h.cells.cell (i := 0) (by omega); have k1 := h.cells.cell (i := 1) (by omega); have f1 := h.cells.frozen 1
  obtain ⟨g, cap, hv, -, -, -⟩ := h.row.form (by omega)
  subst hv
  have hc := h.row.part a hlt
  have hgR := h.own g rfl
  have hne : g ≠ R := by omega
  have hne2 : R ≠ g := by omega
  simp only [row3] at k0 k1
  have hsm := h.small
  have hx8 := b[a].toNat_lt
  have hq : decide ((b.length : Int) ≤ a) = false := by simp; omega
  have hi1 : (a : Int) < b.length := by omega
  have hi2 : (a : Int) + 1 - 1 = a := by omega
  have H := hide h
  generalize b[a].toNat = x at *
  clear h
  go_enter Tryd.func37, Tryd.ntmps37
  go_wp2_with fail
  go_region
  all_goals
    go_wp2_with fail
    go_region
    all_goals
      go_wp2_with fail
      go_ret
      have hb : But R w (w.setCell ⟨R, 1, none⟩ (.int .i64 ((a : Int) + 1))).drew.drew := (But.set w 1 _).trans (But.of_below (Below.refl _ _).drew.drew)
      exact ⟨rfl, (unhide H).but hb ((row3_set1 (unhide H).cells _).of_block rfl) (by omega), hb⟩

set_option maxRecDepth 100000 in
set_option maxHeartbeats 1600000 in
theorem one_no (R : Nat) (w : World) (v : Value) (b : List UInt8) (a : Nat) (bad : Bool) (h : SR R w v b a bad) (hlt : b.length ≤ a) :
    Calls Tryd.prog 37 #[.pointer (some ⟨R, 0, none⟩)] w fun e w' => e = .returned (.int .i64 0) ∧ SR R w' v b a true ∧ But R w w' := by
  have k0 := h.cells.cell (i := 0) (by omega); have k1 := h.cells.cell (i := 1) (by omega); have k2 := h.cells.cell (i := 2) (by omega); have f2 := h.cells.frozen 2
  obtain ⟨av, cap, hv⟩ := h.row.slice
  subst hv
  simp only [row3] at k0 k1 k2
  have hsm := h.small
  have hle := h.le
  have hq : decide ((b.length : Int) ≤ a) = true := by simp; omega
  have H := hide h
  clear h
  go_enter Tryd.func37, Tryd.ntmps37
  go_wp2_with fail
  go_region
  all_goals
    go_wp2_with fail
    go_ret
    have hb : But R w (w.drew.setCell ⟨R, 2, none⟩ (.bool true)) := (But.of_below (Below.refl _ _).drew).trans (But.set w.drew 2 _)
    exact ⟨rfl, (unhide H).but hb (row3_set2 (w := w.drew) (unhide H).cells _) (by omega), hb⟩

/-- A conversion in a region that draws its order, by what its run is known to give. -/
theorem step_convert {P : Program} (w : World) {ops : Array Oper} {o : Oper} {a : Act} {K : Act → World → Prop} {Q : Exit → Act → World → Prop} {E : Prop} (hgd : o.guard = none) (x : Operand) (t u : TypeId)
    (ho : o.op = .convert t u x) (v r : Value) (hx : a.eval x = v) (hr : (convert t u v).run P w = .ok r w) (h : K (a.put o.dst r) w) :
    if Region.wanted o (yielded ops a.tmps) = true then Oper.wp P o a w K Q else E := by
  have hw : Region.wanted o (yielded ops a.tmps) = true := by simp [Region.wanted, hgd]
  rw [if_pos hw]
  unfold Oper.wp execOp
  simp only [ho, hx, Sem.run_bind, hr, Result.andThen_ok, Sem.run_pure]
  exact h

set_option maxRecDepth 100000 in
set_option maxHeartbeats 3200000 in
theorem short_yes (R : Nat) (w : World) (v : Value) (b : List UInt8) (a : Nat) (bad : Bool) (s : ByteArray) (rest : List UInt8) (h : SR R w v b a bad) (hp : ptx (b.drop a) = some (s, rest)) :
    Calls Tryd.prog 36 #[.pointer (some ⟨R, 0, none⟩)] w fun e w' => e = .returned (.string s) ∧ (∃ a', a < a' ∧ SR R w' v b a' bad ∧ rest = b.drop a') ∧ But R w w' := by
  obtain ⟨ha, hle, hs, hr⟩ := ptx_yes hp
  have HN := hide (one_yes R w v b a bad h ha)
  have hsm := h.small
  have hx8 := b[a].toNat_lt
  rw [hs]
  clear h hp hs
  generalize b[a].toNat = n at *
  have HR := hide hr
  clear hr
  go_enter Tryd.func36, Tryd.ntmps36
  go_wp2_with fail
  refine (unhide HN).mono ?_
  rintro e w1 ⟨rfl, hsr1, hb1⟩
  have k0 := hsr1.cells.cell (i := 0) (by omega); have k1 := hsr1.cells.cell (i := 1) (by omega); have f1 := hsr1.cells.frozen 1
  simp only [row3] at k0 k1
  obtain ⟨g, capv, hv, -, -, -⟩ := hsr1.row.form (by omega)
  subst hv
  have hcap : b.length ≤ capv := by
    rcases hsr1.row.2 with ⟨hv, h0⟩ | ⟨g, cap', cur, hv, _, _, hle, _⟩
    · omega
    · simp only [Value.slice.injEq] at hv; omega
  have hby := cut_bytes (w := w1) hsr1.row (a + 1) n hle hcap hsm
  have HSR := hide hsr1; have HB1 := hide hb1
  have hq : decide ((b.length : Int) - ((a : Int) + 1) < n) = false := by simp; omega
  have hi1 : (a : Int) + 1 + n - n = (a : Int) + 1 := by omega
  have hi2 : (a : Int) + 1 ≤ (a : Int) + 1 + n := by omega
  have hi3 : (a : Int) + 1 + n ≤ capv := by omega
  have hbW : But R w1 (w1.setCell ⟨R, 1, none⟩ (.int .i64 ((a : Int) + 1 + n))).drew.drew := (But.set w1 1 _).trans (But.of_below (Below.refl _ _).drew.drew)
  have HN2 := hide (hsr1.but (bad' := bad) hbW (by rw [show (((a + 1 + n : Nat) : Int)) = (a : Int) + 1 + n from by omega]; exact (row3_set1 hsr1.cells _).of_block rfl) hle)
  have hbyW : BytesAt (w1.setCell ⟨R, 1, none⟩ (.int .i64 ((a : Int) + 1 + n))).drew.drew (.slice (if capv = a + 1 then some ⟨g, 0, none⟩ else Option.map (fun (x : Addr) => x.add (a + 1)) (some (⟨g, 0, none⟩ : Addr))) (a + 1 + n - (a + 1)) (capv - (a + 1))) ((b.drop (a + 1)).take n) := cut_bytes (unhide HN2).row (a + 1) n hle hcap hsm
  have hconv := hbyW.str
  have HB2 := hide (hb1.trans hbW)
  have HAW := hide (show a < a + 1 + n from by omega)
  clear hsr1 hb1 HN hby hbyW hbW
  have hi0 : 0 ≤ (a : Int) + 1 + n := by omega
  have hi4 : 0 ≤ (a : Int) + 1 := by omega
  have hwr : IntKind.i64.wrap ((a : Int) + 1) = (a : Int) + 1 := by rw [IntKind.wrap_i64]; omega
  have hna : ((a : Int) + 1).toNat = a + 1 := by omega
  have hnb : ((a : Int) + 1 + n).toNat = a + 1 + n := by omega
  by_cases hca : capv = a + 1
  · subst hca
    have hn0 : n = 0 := by omega
    subst hn0
    rw [if_pos rfl] at hconv
    simp only [Nat.add_zero, Nat.sub_self, Int.natCast_zero, Int.add_zero] at hconv
    simp only [List.take_zero] at hconv ⊢
    go_wp2_with fail
    go_region
    all_goals
      go_wp2_with fail
      go_region_law (fail)
      all_goals
        go_wp2_with fail
        go_ret
        exact ⟨rfl, ⟨_, unhide HAW, unhide HN2, unhide HR⟩, unhide HB2⟩
  · rw [if_neg hca] at hconv
    simp only [Option.map_some, Addr.add_lit, Nat.zero_add, Nat.add_sub_cancel_left] at hconv
    go_wp2_with fail
    go_region
    all_goals
      go_wp2_with fail
      go_region_law (fail)
      all_goals
        go_wp2_with fail
        go_ret
        exact ⟨rfl, ⟨_, unhide HAW, unhide HN2, unhide HR⟩, unhide HB2⟩

set_option maxRecDepth 100000 in
set_option maxHeartbeats 3200000 in
theorem short_no (R : Nat) (w : World) (v : Value) (b : List UInt8) (a : Nat) (bad : Bool) (h : SR R w v b a bad) (hp : ptx (b.drop a) = none) :
    Calls Tryd.prog 36 #[.pointer (some ⟨R, 0, none⟩)] w fun e w' => (∃ s : ByteArray, e = .returned (.string s) ∧ s.size ≤ 255) ∧ (∃ a', SR R w' v b a' true) ∧ But R w w' := by
  have hsm := h.small
  by_cases ha : a < b.length
  · have hgt : b.length < a + 1 + b[a].toNat := by
      rw [List.drop_eq_getElem_cons ha, ptx] at hp
      split at hp
      · cases hp
      · rename_i hn
        simp at hn
        omega
    have hx8 := b[a].toNat_lt
    have HN := hide (one_yes R w v b a bad h ha)
    clear h hp
    generalize b[a].toNat = n at *
    go_enter Tryd.func36, Tryd.ntmps36
    go_wp2_with fail
    refine (unhide HN).mono ?_
    rintro e w1 ⟨rfl, hsr1, hb1⟩
    have k0 := hsr1.cells.cell (i := 0) (by omega); have k1 := hsr1.cells.cell (i := 1) (by omega); have k2 := hsr1.cells.cell (i := 2) (by omega); have f2 := hsr1.cells.frozen 2
    simp only [row3] at k0 k1 k2
    obtain ⟨av, capv, hv⟩ := hsr1.row.slice
    subst hv
    have hq : decide ((b.length : Int) - ((a : Int) + 1) < n) = true := by simp; omega
    have hq2 : (b.length : Int) - ((a : Int) + 1) < n := by omega
    have HSR := hide hsr1; have HB1 := hide hb1
    clear hsr1 hb1 HN
    go_wp2_with fail
    go_region
    all_goals
      go_wp2_with fail
      go_ret
      have hb : But R w1 (w1.drew.setCell ⟨R, 2, none⟩ (.bool true)) := (But.of_below (Below.refl _ _).drew).trans (But.set w1.drew 2 _)
      exact ⟨⟨_, rfl, by decide⟩, ⟨a + 1, (unhide HSR).but hb (row3_set2 (w := w1.drew) (unhide HSR).cells _) (by omega)⟩, (unhide HB1).trans hb⟩
  · have hle := h.le
    have HN := hide (one_no R w v b a bad h (by omega))
    clear h hp
    have hab : a = b.length := by omega
    go_enter Tryd.func36, Tryd.ntmps36
    go_wp2_with fail
    refine (unhide HN).mono ?_
    rintro e w1 ⟨rfl, hsr1, hb1⟩
    have k0 := hsr1.cells.cell (i := 0) (by omega); have k1 := hsr1.cells.cell (i := 1) (by omega); have f1 := hsr1.cells.frozen 1
    simp only [row3] at k0 k1
    have hq : decide ((b.length : Int) - (a : Int) < 0) = false := by simp; omega
    have hi1 : (a : Int) - 0 = a := by omega
    have hi0 : 0 ≤ (a : Int) := by omega
    have hwr : IntKind.i64.wrap (a : Int) = (a : Int) := by rw [IntKind.wrap_i64]; omega
    have hbW : But R w1 (w1.setCell ⟨R, 1, none⟩ (.int .i64 (a : Int))).drew.drew := (But.set w1 1 _).trans (But.of_below (Below.refl _ _).drew.drew)
    have HB2 := hide (hb1.trans hbW)
    rcases hsr1.row.2 with ⟨hv, h0⟩ | ⟨g, capv, cur, hv, -, -, hcap, -, -, -⟩
    · subst hv
      have HN2 := hide (hsr1.but (bad' := true) hbW ((row3_set1 hsr1.cells _).of_block rfl) hle)
      have hby : BytesAt (w1.setCell ⟨R, 1, none⟩ (.int .i64 (a : Int))).drew.drew (.slice none 0 0) [] := ⟨none, 0, rfl, by decide, fun i hi => by simp at hi⟩
      have hconv := hby.str
      have ha0 : a = 0 := by omega
      subst ha0
      simp only [Int.natCast_zero] at *
      clear hsr1 hb1 HN hby hbW hab h0
      go_wp2_with fail
      go_region
      all_goals
        go_wp2_with fail
        go_region_law (fail)
        all_goals
          go_wp2_with fail
          go_ret
          exact ⟨⟨_, rfl, by decide⟩, ⟨_, unhide HN2⟩, unhide HB2⟩
    · subst hv
      have HN2 := hide (hsr1.but (bad' := true) hbW ((row3_set1 hsr1.cells _).of_block rfl) hle)
      have hby := cut_bytes (unhide HN2).row a 0 (by omega) hcap hsm
      have hconv := hby.str
      simp only [List.take_zero, Nat.add_zero, Nat.sub_self] at hconv
      have hi3 : (a : Int) ≤ capv := by omega
      clear hsr1 hb1 HN hby hbW hab
      by_cases hca : capv = a
      · subst hca
        rw [if_pos rfl] at hconv
        simp only [Nat.sub_self] at hconv
        go_wp2_with fail
        go_region
        all_goals
          go_wp2_with fail
          go_region_law (fail)
          all_goals
            go_wp2_with fail
            go_ret
            exact ⟨⟨_, rfl, by decide⟩, ⟨_, unhide HN2⟩, unhide HB2⟩
      · rw [if_neg hca] at hconv
        simp only [Option.map_some, Addr.add_lit, Nat.zero_add] at hconv
        go_wp2_with fail
        go_region
        all_goals
          go_wp2_with fail
          go_region_law (fail)
          all_goals
            go_wp2_with fail
            go_ret
            exact ⟨⟨_, rfl, by decide⟩, ⟨_, unhide HN2⟩, unhide HB2⟩
end Go.Proofs.YtffdofllebbcgaaDoor
