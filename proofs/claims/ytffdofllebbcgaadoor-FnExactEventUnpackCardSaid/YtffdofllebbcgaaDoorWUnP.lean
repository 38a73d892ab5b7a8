/- The program's byteCursor in memory, and the walks of its add, take, next, text. No conditions. -/
import Derived.Test.YtffdofllebbcgaaDoorUnMath
import Derived.Test.YtffdofllebbcgaaDoorWPkP
import Derived.Test.YtffdofllebbcgaaDoorMerged15
namespace Go.Proofs.YtffdofllebbcgaaDoor
open Go Go.RowKit

/-- The cursor: how many bytes were taken, how many there are, and the bytes. -/
structure Cu (R : Nat) (w : World) (v : Value) (b : List UInt8) (at' : Nat) : Prop where
  cells : w.rowIs R 89 3 (row3 (.int .i64 at') (.int .i64 b.length) v)
  row : ByRow 0 w v b
  own : ∀ g, v.ownBlock = some g → g < R
  le : at' ≤ b.length
  small : b.length ≤ 1048576

theorem Cu.but {R : Nat} {w w' : World} {v : Value} {b : List UInt8} {a a' : Nat} (h : Cu R w v b a) (hb : But R w w') (hc : w'.rowIs R 89 3 (row3 (.int .i64 a') (.int .i64 b.length) v)) (hle : a' ≤ b.length) : Cu R w' v b a' :=
  ⟨hc, World.ownsRow.kept h.row hb (by
    rcases e : v.ownBlock with _ | g
    · exact Or.inl rfl
    · exact Or.inr (fun e2 => by have := h.own g e; simp at e2; omega)), h.own, hle, h.small⟩
theorem Cu.on {R : Nat} {w w' : World} {v : Value} {b : List UInt8} {a : Nat} (h : Cu R w v b a) (hb : Below w.heap.size w w') : Cu R w' v b a :=
  ⟨h.cells.of_block (hb.block _ h.cells.lt), h.row.stay hb, h.own, h.le, h.small⟩

set_option maxRecDepth 100000 in
set_option maxHeartbeats 800000 in
theorem addT_yes (T : TypeId) (w : World) (B : Nat) (c k m : Nat) (v : Value) (h : w.rowIs B T 3 (row3 (.int .i64 c) (.int .i64 m) v)) (hc : c + k ≤ m) (hm : m ≤ 1048576) :
    Calls Tryd.prog 69 #[.pointer (some ⟨B, 0, none⟩), .int .i64 k] w fun e w' => e = .returned (.tuple #[]) ∧ w'.rowIs B T 3 (row3 (.int .i64 ((c + k : Nat) : Int)) (.int .i64 m) v) ∧ But B w w' := by
  have k0 := h.cell (i := 0) (by omega); have k1 := h.cell (i := 1) (by omega); have f0 := h.frozen 0
  simp only [row3] at k0 k1
  have hle : decide ((c : Int) + k ≤ m) = true := by simp; omega
  have H := hide h
  clear h
  go_enter Tryd.func69, Tryd.ntmps69
  go_wp2_with fail
  go_quiet ((go_at_call 62; exact Calls.quiet_of_same (treeWant_yes _)))
  go_wp2_with fail
  go_end0
  refine ⟨rfl, ?_, ?_⟩
  · have := row3_set0 (unhide H) (.int .i64 ((c : Int) + k))
    rw [Int.natCast_add]
    exact this.of_block (by simp)
  · exact (But.set w 0 _).trans (But.of_below (below_drewN (Below.refl _ _) _))

set_option maxRecDepth 100000 in
set_option maxHeartbeats 800000 in
theorem addT_no (T : TypeId) (w : World) (B : Nat) (c k m : Nat) (v : Value) (h : w.rowIs B T 3 (row3 (.int .i64 c) (.int .i64 m) v)) (hc : m < c + k) (hm : c + k ≤ 1099511627776) :
    Calls Tryd.prog 69 #[.pointer (some ⟨B, 0, none⟩), .int .i64 k] w fun e w' => e = fltE ∧ But B w w' := by
  have k0 := h.cell (i := 0) (by omega); have k1 := h.cell (i := 1) (by omega); have f0 := h.frozen 0
  simp only [row3] at k0 k1
  have hle : decide ((c : Int) + k ≤ m) = false := by simp; omega
  clear h
  go_enter Tryd.func69, Tryd.ntmps69
  go_wp2_with fail
  go_region_law (rw [if_pos (by first | rfl | simp [Region.wanted])]; go_simp; refine (treeWant_no _).mono ?_; rintro e w2 ⟨rfl, rfl⟩; refine dead_end (by assumption) { tmps := #[], defers := [] } w (And.intro rfl (And.intro rfl ((But.set w 0 _).trans (But.of_below (Below.refl _ _).drew)))) (fun HF => ?_))
  all_goals exact (unhide HF).elim

theorem ByRow.part {w : World} {g n cap : Nat} {l : List UInt8} {base : Nat} (h : ByRow base w (.slice (some ⟨g, 0, none⟩) n cap) l) (i : Nat) (hi : i < l.length) : w.cell? ⟨g, i, none⟩ = some (.int .u8 l[i].toNat) := by
  obtain ⟨a, cap', e, -, hc⟩ := h.at
  simp only [Value.slice.injEq] at e
  obtain ⟨rfl, -, -⟩ := e
  obtain ⟨b, o, e2, -, hcell⟩ := hc i hi
  simp only [Option.some.injEq, Addr.mk.injEq, and_true] at e2
  obtain ⟨rfl, rfl⟩ := e2
  rw [Nat.zero_add] at hcell
  exact hcell

theorem cut_bytes {base : Nat} {w : World} {av : Option Addr} {capv : Nat} {b : List UInt8} (h : ByRow base w (.slice av b.length capv) b) (a n : Nat) (hn : a + n ≤ b.length) (hcap : b.length ≤ capv) (hsm : b.length ≤ 1048576) :
    BytesAt w (.slice (if capv = a then av else Option.map (fun x => x.add a) av) (a + n - a) (capv - a)) ((b.drop a).take n) := by
  have hl : ((b.drop a).take n).length = n := by simp; omega
  refine ⟨_, _, by rw [hl, Nat.add_sub_cancel_left], by omega, fun i hi => ?_⟩
  rw [hl] at hi
  obtain ⟨g, cap', hv, -, hlt, -⟩ := h.form (by omega)
  simp only [Value.slice.injEq, true_and] at hv
  obtain ⟨rfl, rfl⟩ := hv
  have hc := h.part (a + i) (by omega)
  rw [if_neg (by omega)]
  refine ⟨g, a, by simp [Addr.add_lit], hlt, ?_⟩
  rw [hc]
  simp

theorem BytesAt.str {w : World} {v : Value} {l : List UInt8} (h : BytesAt w v l) : (convert 38 9 v).run Tryd.prog w = .ok (.string ⟨l.toArray⟩) w := by
  obtain ⟨a, cap, rfl, -, hc⟩ := h
  match a, hc with
  | some ad, hc =>
    obtain ⟨g, o, sp⟩ := ad
    refine run_convert_bytes_back w 38 9 5 ⟨g, o, sp⟩ cap l Tryd.underlying38 Tryd.underlying5 Tryd.underlying9 (fun j hj => ?_)
    obtain ⟨b, o', e, -, hcell⟩ := hc j hj
    simp only [Option.some.injEq, Addr.mk.injEq] at e
    obtain ⟨rfl, rfl, rfl⟩ := e
    rw [Addr.add_lit]
    exact hcell
  | none, hc =>
    match l, hc with
    | [], _ =>
      rw [run_convert_bytes_string w 38 9 5 none _ cap Tryd.underlying38 Tryd.underlying5 Tryd.underlying9]
      rfl
    | x :: r, hc =>
      obtain ⟨b, o', e, -⟩ := hc 0 (by simp)
      cases e

set_option maxRecDepth 100000 in
set_option maxHeartbeats 800000 in
theorem takeP_yes (R : Nat) (w : World) (v : Value) (b : List UInt8) (a n : Nat) (h : Cu R w v b a) (hn : a + n ≤ b.length) :
    Calls Tryd.prog 84 #[.pointer (some ⟨R, 0, none⟩), .int .i64 n] w fun e w' => (∃ v', e = .returned v' ∧ BytesAt w' v' ((b.drop a).take n)) ∧ Cu R w' v b (a + n) ∧ But R w w' := by
  have hsm := h.small
  have k0 := h.cells.cell (i := 0) (by omega)
  simp only [row3] at k0
  have HADD := hide (addT_yes 89 w R a n b.length v h.cells hn hsm)
  have H := hide h
  clear h
  go_enter Tryd.func84, Tryd.ntmps84
  go_wp2_with fail
  refine (unhide HADD).mono ?_
  rintro e w1 ⟨rfl, hr1, hb1⟩
  have hcu := (unhide H).but hb1 hr1 (by omega)
  have m0 := hr1.cell (i := 0) (by omega); have m2 := hr1.cell (i := 2) (by omega)
  simp only [row3] at m0 m2
  have HCU := hide hcu; have HB1 := hide hb1
  obtain ⟨av, capv, rfl⟩ := hcu.row.slice
  have hcap : b.length ≤ capv := by
    rcases hcu.row.2 with ⟨hv, h0⟩ | ⟨g, cap', cur, hv, _, _, hle, _⟩
    · omega
    · simp only [Value.slice.injEq] at hv; omega
  clear hcu hr1 hb1 HADD k0
  have hby := cut_bytes (w := w1) (unhide HCU).row a n hn hcap hsm
  have hi1 : (a : Int) ≤ (a : Int) + n := by omega
  have hi2 : (a : Int) + n ≤ capv := by omega
  have hi3 : ((a : Int) + n - a).toNat = n := by omega
  rw [Int.natCast_add] at m0
  by_cases hca : capv = a
  · subst hca
    have hn0 : n = 0 := by omega
    subst hn0
    rw [if_pos rfl, Nat.add_sub_cancel_left, Nat.sub_self] at hby
    have HBY := hide hby
    clear hby
    go_wp2_with fail
    go_region
    all_goals
      go_wp2_with fail
      go_ret
      exact ⟨⟨_, rfl, (unhide HBY).on (Below.refl _ w1).drew⟩, (unhide HCU).on (Below.refl _ w1).drew, (unhide HB1).trans (But.of_below (Below.refl _ w1).drew)⟩
  · rw [if_neg hca] at hby
    have HBY := hide hby
    clear hby
    go_wp2_with fail
    go_region
    all_goals
      go_wp2_with fail
      go_ret
      exact ⟨⟨_, rfl, (unhide HBY).on (Below.refl _ w1).drew⟩, (unhide HCU).on (Below.refl _ w1).drew, (unhide HB1).trans (But.of_below (Below.refl _ w1).drew)⟩

set_option maxRecDepth 100000 in
set_option maxHeartbeats 800000 in
theorem takeP_no (R : Nat) (w : World) (v : Value) (b : List UInt8) (a n : Nat) (h : Cu R w v b a) (hn : b.length < a + n) (hs : n ≤ 1048576) :
    Calls Tryd.prog 84 #[.pointer (some ⟨R, 0, none⟩), .int .i64 n] w fun e w' => e = fltE ∧ But R w w' := by
  have k0 := h.cells.cell (i := 0) (by omega)
  simp only [row3] at k0
  have HADD := hide (addT_no 89 w R a n b.length v h.cells hn (by have := h.small; have := h.le; omega))
  clear h
  go_enter Tryd.func84, Tryd.ntmps84
  go_wp2_with fail
  refine (unhide HADD).mono ?_
  rintro e w1 ⟨rfl, hb1⟩
  exact ⟨rfl, rfl, hb1⟩

set_option maxRecDepth 100000 in
set_option maxHeartbeats 800000 in
theorem nextP_yes (R : Nat) (w : World) (v : Value) (b : List UInt8) (a : Nat) (h : Cu R w v b a) (hn : a < b.length) :
    Calls Tryd.prog 75 #[.pointer (some ⟨R, 0, none⟩)] w fun e w' => e = .returned (.int .i64 (b[a].toNat : Int)) ∧ Cu R w' v b (a + 1) ∧ But R w w' := by
  have HT := hide (takeP_yes R w v b a 1 h (by omega))
  have hx : (b.drop a).take 1 = [b[a]] := by rw [List.drop_eq_getElem_cons hn]; rfl
  rw [hx] at HT
  clear h
  have hlt := b[a].toNat_lt
  generalize b[a] = x at *
  go_enter Tryd.func75, Tryd.ntmps75
  go_wp2_with fail
  refine (unhide HT).mono ?_
  rintro e w1 ⟨⟨v', rfl, a', cap', rfl, -, hc⟩, hcu, hb1⟩
  obtain ⟨g, o, rfl, -, e0⟩ := hc 0 (by simp)
  simp only [List.getElem_cons_zero, Nat.add_zero] at e0
  have HCU := hide hcu; have HB := hide hb1
  clear hcu hb1 hc HT
  go_wp2_with fail
  go_ret
  exact ⟨rfl, unhide HCU, unhide HB⟩

set_option maxRecDepth 100000 in
set_option maxHeartbeats 800000 in
theorem nextP_no (R : Nat) (w : World) (v : Value) (b : List UInt8) (a : Nat) (h : Cu R w v b a) (hn : b.length ≤ a) :
    Calls Tryd.prog 75 #[.pointer (some ⟨R, 0, none⟩)] w fun e w' => e = fltE ∧ But R w w' := by
  have HT := hide (takeP_no R w v b a 1 h (by omega) (by decide))
  clear h
  go_enter Tryd.func75, Tryd.ntmps75
  go_wp2_with fail
  refine (unhide HT).mono ?_
  rintro e w1 ⟨rfl, hb1⟩
  exact ⟨rfl, rfl, hb1⟩

/-- What is left. -/
theorem ptx_yes {b : List UInt8} {a : Nat} {s : ByteArray} {rest : List UInt8} (h : ptx (b.drop a) = some (s, rest)) : ∃ ha : a < b.length, a + 1 + b[a].toNat ≤ b.length ∧ s = ⟨((b.drop (a + 1)).take b[a].toNat).toArray⟩ ∧ rest = b.drop (a + 1 + b[a].toNat) := by
  by_cases ha : a < b.length
  · rw [List.drop_eq_getElem_cons ha, ptx] at h
    split at h
    · rename_i hn
      simp only [Option.some.injEq, Prod.mk.injEq] at h
      refine ⟨ha, by simp at hn; omega, h.1.symm, ?_⟩
      rw [← h.2, List.drop_drop]
    · cases h
  · rw [List.drop_eq_nil_of_le (by omega), ptx] at h
    cases h

set_option maxRecDepth 100000 in
set_option maxHeartbeats 800000 in
theorem textP_yes (R : Nat) (w : World) (v : Value) (b : List UInt8) (a : Nat) (s : ByteArray) (rest : List UInt8) (h : Cu R w v b a) (hp : ptx (b.drop a) = some (s, rest)) :
    Calls Tryd.prog 73 #[.pointer (some ⟨R, 0, none⟩)] w fun e w' => e = .returned (.string s) ∧ (∃ a', a < a' ∧ Cu R w' v b a' ∧ rest = b.drop a') ∧ But R w w' := by
  obtain ⟨ha, hle, hs, hr⟩ := ptx_yes hp
  have HN := hide (nextP_yes R w v b a h ha)
  have HTK := hide (fun (W : World) (hW : Cu R W v b (a + 1)) => takeP_yes R W v b (a + 1) b[a].toNat hW (by omega))
  rw [hs]
  clear h hp
  generalize b[a].toNat = n at *
  have HR := hide hr
  clear hr hs
  generalize (b.drop (a + 1)).take n = L at *
  go_enter Tryd.func73, Tryd.ntmps73
  go_wp2_with fail
  refine (unhide HN).mono ?_
  rintro e w1 ⟨rfl, hcu1, hb1⟩
  have HT1 := hide (unhide HTK w1 hcu1)
  have HB1 := hide hb1
  clear hcu1 hb1 HTK HN
  go_wp2_with fail
  refine (unhide HT1).mono ?_
  rintro e w2 ⟨⟨v', rfl, hby⟩, hcu2, hb2⟩
  have hst := hby.str
  have HB2 := hide ((unhide HB1).trans hb2); have HCU := hide hcu2
  obtain ⟨a', cap', rfl, -⟩ := hby
  clear hcu2 hb2 HT1 HB1
  go_wp2_with fail
  go_ret
  exact ⟨rfl, ⟨a + 1 + n, by omega, unhide HCU, unhide HR⟩, unhide HB2⟩

set_option maxRecDepth 100000 in
set_option maxHeartbeats 800000 in
theorem textP_no (R : Nat) (w : World) (v : Value) (b : List UInt8) (a : Nat) (h : Cu R w v b a) (hp : ptx (b.drop a) = none) :
    Calls Tryd.prog 73 #[.pointer (some ⟨R, 0, none⟩)] w fun e w' => e = fltE ∧ But R w w' := by
  by_cases ha : a < b.length
  · have hgt : b.length < a + 1 + b[a].toNat := by
      rw [List.drop_eq_getElem_cons ha, ptx] at hp
      split at hp
      · cases hp
      · rename_i hn
        simp at hn
        omega
    have hlt := b[a].toNat_lt
    have HN := hide (nextP_yes R w v b a h ha)
    have HTK := hide (fun (W : World) (hW : Cu R W v b (a + 1)) => takeP_no R W v b (a + 1) b[a].toNat hW hgt (by omega))
    clear h hp
    generalize b[a].toNat = n at *
    go_enter Tryd.func73, Tryd.ntmps73
    go_wp2_with fail
    refine (unhide HN).mono ?_
    rintro e w1 ⟨rfl, hcu1, hb1⟩
    have HT1 := hide (unhide HTK w1 hcu1)
    have HB1 := hide hb1
    clear hcu1 hb1 HTK HN
    go_wp2_with fail
    refine (unhide HT1).mono ?_
    rintro e w2 ⟨rfl, hb2⟩
    exact ⟨rfl, rfl, (unhide HB1).trans hb2⟩
  · have HN := hide (nextP_no R w v b a h (by omega))
    clear h hp
    go_enter Tryd.func73, Tryd.ntmps73
    go_wp2_with fail
    refine (unhide HN).mono ?_
    rintro e w1 ⟨rfl, hb1⟩
    exact ⟨rfl, rfl, hb1⟩
end Go.Proofs.YtffdofllebbcgaaDoor
