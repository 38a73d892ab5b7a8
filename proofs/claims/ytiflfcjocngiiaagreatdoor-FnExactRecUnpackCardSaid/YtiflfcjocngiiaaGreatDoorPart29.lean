/- What both RecUnpack answer, as one; what the law's world holds. No conditions. -/
import Derived.Test.YtiflfcjocngiiaaGreatDoorPart27
import Derived.Test.YtiflfcjocngiiaaGreatDoorPart28
import Derived.Test.YtiflfcjocngiiaaGreatDoorPart21
import Derived.Test.YtiflfcjocngiiaaGreatDoorPart05
import Derived.Deep.RegionWith
import Derived.Deep.RegionLaw
namespace Go.Proofs.YtiflfcjocngiiaaGreatDoor
open Go Go.RowKit

theorem cE_le : ∀ (es : List Ev), es.all evOkE = true → cE es ≤ 490 * es.length
  | [], _ => by simp [cE]
  | e :: r, h => by
    simp only [List.all_cons, Bool.and_eq_true] at h
    have h1 := (evOk_facts (show evOkB e.ty e.ver e.t = true from h.1)).2.2.2.2.2.2
    have h2 := cT_pT e.t 1 h1
    have h3 := pT_bd e.t 1
    have ih := cE_le r h.2
    rw [cT_eq] at h2
    simp only [cE, List.length_cons]
    omega
theorem ru_marks {pos : Int} {b : List UInt8} {k : ByteArray} {es : List Ev} (h : RuIs pos b (some (k, es))) : 1 + cE es ≤ 1000000 ∧ k.size ≤ 1000 := by
  have h1 := h.1
  unfold recOkB at h1
  simp only [Bool.and_eq_true] at h1
  obtain ⟨⟨h2, h3⟩, -⟩ := h1
  obtain ⟨-, hk, -, hn⟩ := headB_parts h2
  have h4 := cE_le es h3
  have := name_size hk
  constructor
  · have : es.length ≤ 40 := by omega
    omega
  · omega
/-- A record that was read, as one answer. -/
def RuOne (w w' : World) (e : Ending) (p : Int) (k : ByteArray) (es : List Ev) (t : Bool) : Prop := ∃ ad cap F, e = .returned (.tuple #[.agg #[.int .i64 p, .string k, .slice ad es.length cap], .bool t]) ∧ EvsOwn w' (.slice ad es.length cap) es F ∧ F.Nodup ∧ (∀ b, b ∈ F → w.heap.size ≤ b ∧ b < w'.heap.size) ∧ Below w.heap.size w w'
theorem ru_ans (pos : Int) (X : List UInt8) : ∃ (p : Int) (k : ByteArray) (es : List Ev) (t : Bool), 1 + cE es ≤ 1000000 ∧ ∀ (w w' : World) (e : Ending), RuEnd w w' pos X e → RuOne w w' e p k es t := by
  by_cases hex : ∃ k es, RuIs pos X (some (k, es))
  · obtain ⟨k, es, hi⟩ := hex
    refine ⟨pos, k, es, true, (ru_marks hi).1, ?_⟩
    rintro w w' e ⟨hb, ⟨k', es', u, F, hi', rfl, ho, hnd, hF⟩ | ⟨hno, -⟩⟩
    · obtain ⟨rfl, rfl⟩ := hi.same hi'
      obtain ⟨ad, cap, hu, h2, h3⟩ := ho
      subst hu
      exact ⟨ad, cap, F, rfl, ⟨ad, cap, rfl, h2, h3⟩, hnd, hF, hb⟩
    · exact absurd hi.2 (hno k es hi.1)
  · refine ⟨0, ByteArray.empty, [], false, by simp [cE], ?_⟩
    rintro w w' e ⟨hb, ⟨k', es', u, F, hi', -, -, -, -⟩ | ⟨-, rfl⟩⟩
    · exact absurd ⟨k', es', hi'⟩ hex
    · exact ⟨none, 0, [], rfl, ⟨none, 0, rfl, by simp, Or.inl ⟨rfl, rfl⟩⟩, by simp, fun b hb => (by cases hb), hb⟩
/-- What the law holds behind both calls: both answers, each in blocks of its own, and their boxes. -/
structure RSt (w wr : World) (p : Int) (k : ByteArray) (es N' : List Ev) (vW vG : Value) (gW gG : Nat) (FW FG : List Nat) : Prop where
  below : Below w.heap.size w wr
  oW : EvsOwn wr vW es FW
  oG : EvsOwn wr vG N' FG
  lW : ∀ b, b ∈ FW → b < wr.heap.size ∧ b ∉ FG
  lG : ∀ b, b ∈ FG → w.heap.size ≤ b ∧ b < wr.heap.size
  nd : FG.Nodup
  bW : wr.rowIs gW 24 3 (row3 (.int .i64 p) (.string k) vW)
  bG : wr.rowIs gG 24 3 (row3 (.int .i64 p) (.string k) vG)
  nW : gW ∉ FG
  nG : gG ∉ FG
section
variable {w wr w' : World} {p : Int} {k : ByteArray} {es N' : List Ev} {vW vG : Value} {gW gG : Nat} {FW FG : List Nat}
theorem RSt.on (h : RSt w wr p k es N' vW vG gW gG FW FG) (hb : Below wr.heap.size wr w') : RSt w w' p k es N' vW vG gW gG FW FG := by
  have hs := hb.size
  exact ⟨h.below.trans (hb.mono h.below.size), h.oW.carry (fun b hm => hb.block b (h.lW b hm).1), h.oG.carry (fun b hm => hb.block b (h.lG b hm).2), fun b hm => ⟨by have := (h.lW b hm).1; omega, (h.lW b hm).2⟩, fun b hm => ⟨(h.lG b hm).1, by have := (h.lG b hm).2; omega⟩, h.nd, h.bW.of_block (hb.block _ h.bW.lt), h.bG.of_block (hb.block _ h.bG.lt), h.nW, h.nG⟩
theorem RSt.eq (h : RSt w wr p k es es vW vG gW gG FW FG) :
    Calls Tryz.prog 6 #[.agg #[.int .i64 p, .string k, vG], .agg #[.int .i64 p, .string k, vW]] wr fun e w' => e = .returned (.bool true) ∧ RSt w w' p k es es vW vG gW gG FW FG :=
  (eqRecord_any p k es (· ∈ FG) (· ∈ FW) vG vW wr (fun b hb => (h.lG b hb).2) (fun b hb => (h.lW b hb).1) h.oG.at h.oW.at).mono fun _ _ ⟨h1, h2⟩ => ⟨h1, h.on h2⟩
theorem RSt.mark (h : RSt w wr p k es N' vW vG gW gG FW FG) (hl : 1 + cE N' ≤ 1000000) :
    Calls Tryz.prog 7 #[.agg #[.int .i64 p, .string k, vG], .int .i64 1] wr fun e w' => e = .returned (.int .i64 (1 + cE N' : Nat)) ∧ RSt w w' p k es (mE 1 N') vW vG gW gG FW FG :=
  (markRecord_own p k N' vG FG 1 wr h.oG h.nd (fun b hb => (h.lG b hb).2) (by omega) (by omega)).mono fun _ _ ⟨h1, h2, h3⟩ => by
    have hs := h3.size
    refine ⟨h1, h.below.trans (h3.below h.below.size (fun b hm => by have := (h.lG b hm).1; omega)), h.oW.carry (fun b hm => h3.block b (h.lW b hm).1 (h.lW b hm).2), h2, fun b hm => ⟨by have := (h.lW b hm).1; omega, (h.lW b hm).2⟩, fun b hm => ⟨(h.lG b hm).1, by have := (h.lG b hm).2; omega⟩, h.nd, h.bW.of_block (h3.block _ h.bW.lt h.nW), h.bG.of_block (h3.block _ h.bG.lt h.nG), h.nW, h.nG⟩
theorem RSt.held {N : List Ev} (h : RSt w wr p k es (mE 1 N) vW vG gW gG FW FG) (hl : 1 + cE N ≤ 1000000) :
    Calls Tryz.prog 8 #[.agg #[.int .i64 p, .string k, vG], .int .i64 1] wr fun e w' => e = .returned (.int .i64 (1 + cE N : Nat)) ∧ RSt w w' p k es (mE 1 N) vW vG gW gG FW FG :=
  (heldRecord_any p k N (· ∈ FG) vG 1 wr (fun b hb => (h.lG b hb).2) h.oG.at (by omega) (by omega)).mono fun _ _ ⟨h1, h2⟩ => ⟨h1, h.on h2⟩
/-- Both boxes, read. -/
theorem RSt.cs (h : RSt w wr p k es N' vW vG gW gG FW FG) : (wr.cell? ⟨gW, 0, none⟩ = some (.int .i64 p) ∧ wr.cell? ⟨gW, 1, none⟩ = some (.string k) ∧ wr.cell? ⟨gW, 2, none⟩ = some vW) ∧ (wr.cell? ⟨gG, 0, none⟩ = some (.int .i64 p) ∧ wr.cell? ⟨gG, 1, none⟩ = some (.string k) ∧ wr.cell? ⟨gG, 2, none⟩ = some vG) :=
  ⟨⟨h.bW.cell (i := 0) (by omega), h.bW.cell (i := 1) (by omega), h.bW.cell (i := 2) (by omega)⟩, ⟨h.bG.cell (i := 0) (by omega), h.bG.cell (i := 1) (by omega), h.bG.cell (i := 2) (by omega)⟩⟩
end
end Go.Proofs.YtiflfcjocngiiaaGreatDoor

/- The specification's reader of bytes in memory, and the walks of its one, short. No conditions. -/

namespace Go.Proofs.YtiflfcjocngiiaaGreatDoor
open Go Go.RowKit

/-- The specification's reader: the bytes, the place, whether something was bad. -/
structure SR (R : Nat) (w : World) (v : Value) (b : List UInt8) (a : Nat) (bad : Bool) : Prop where
  cells : w.rowIs R 33 3 (row3 v (.int .i64 a) (.bool bad))
  row : ByIn w v b
  own : ∀ g, v.ownBlock = some g → g < R
  le : a ≤ b.length
  small : b.length ≤ 1048576

theorem SR.but {R : Nat} {w w' : World} {v : Value} {b : List UInt8} {a a' : Nat} {bad bad' : Bool} (h : SR R w v b a bad) (hb : But R w w') (hc : w'.rowIs R 33 3 (row3 v (.int .i64 a') (.bool bad'))) (hle : a' ≤ b.length) : SR R w' v b a' bad' :=
  ⟨hc, ByIn.kept h.row hb (by
    rcases e : v.ownBlock with _ | g
    · exact Or.inl rfl
    · exact Or.inr (fun e2 => by have := h.own g e; simp at e2; omega)), h.own, hle, h.small⟩
theorem SR.on {R : Nat} {w w' : World} {v : Value} {b : List UInt8} {a : Nat} {bad : Bool} (h : SR R w v b a bad) (hb : Below w.heap.size w w') : SR R w' v b a bad :=
  ⟨h.cells.of_block (hb.block _ h.cells.lt), h.row.stay hb, h.own, h.le, h.small⟩
theorem row3_un1 {w : World} {B : Nat} {T : TypeId} {x y z : Value} (h : w.rowIs B T 3 (row3 x y z)) (v : Value) : (w.setCell ⟨B, 1, none⟩ v).rowIs B T 3 (row3 x v z) :=
  (h.set 1 v).congr fun i hi => by
    rcases (show i = 0 ∨ i = 1 ∨ i = 2 by omega) with rfl | rfl | rfl <;> rfl

set_option maxRecDepth 100000 in
set_option maxHeartbeats 1600000 in
theorem one_yes (R : Nat) (w : World) (v : Value) (b : List UInt8) (a : Nat) (bad : Bool) (h : SR R w v b a bad) (hlt : a < b.length) :
    Calls Tryz.prog 10 #[.pointer (some ⟨R, 0, none⟩)] w fun e w' => e = .returned (.int .i64 (b[a].toNat : Int)) ∧ SR R w' v b (a + 1) bad ∧ But R w w' := by
  have k0 := h.cells.cell (i := 0) (by omega); have k1 := h.cells.cell (i := 1) (by omega); have f1 := h.cells.frozen 1
  obtain ⟨g, o, cap, hv, -, hcc⟩ := h.row.form (by omega)
  subst hv
  have hc := hcc a hlt
  clear hcc
  have hgR := h.own g rfl
  have hne : g ≠ R := by omega
  have hne2 : R ≠ g := by omega
  simp only [row3] at k0 k1
  have hsm := h.small
  have hx8 := b[a].toNat_lt
  have hq : decide ((b.length : Int) ≤ a) = false := by simp; omega
  have hi1 : (a : Int) < b.length := by omega
  have hi2 : (a : Int) + 1 - 1 = a := by omega
  have H := hide h
  generalize b[a].toNat = x at *
  clear h
  go_enter Tryz.func10, Tryz.ntmps10
  go_wp2_with fail
  go_region
  all_goals
    go_wp2_with fail
    go_region
    all_goals
      go_wp2_with fail
      go_ret
      have hb : But R w (w.setCell ⟨R, 1, none⟩ (.int .i64 ((a : Int) + 1))).drew.drew := (But.set w 1 _).trans (But.of_below (Below.refl _ _).drew.drew)
      exact ⟨rfl, (unhide H).but hb ((row3_un1 (unhide H).cells _).of_block rfl) (by omega), hb⟩

set_option maxRecDepth 100000 in
set_option maxHeartbeats 1600000 in
theorem one_no (R : Nat) (w : World) (v : Value) (b : List UInt8) (a : Nat) (bad : Bool) (h : SR R w v b a bad) (hlt : b.length ≤ a) :
    Calls Tryz.prog 10 #[.pointer (some ⟨R, 0, none⟩)] w fun e w' => e = .returned (.int .i64 0) ∧ SR R w' v b a true ∧ But R w w' := by
  have k0 := h.cells.cell (i := 0) (by omega); have k1 := h.cells.cell (i := 1) (by omega); have k2 := h.cells.cell (i := 2) (by omega); have f2 := h.cells.frozen 2
  obtain ⟨av, cap, hv⟩ := h.row.slice
  subst hv
  simp only [row3] at k0 k1 k2
  have hsm := h.small
  have hle := h.le
  have hq : decide ((b.length : Int) ≤ a) = true := by simp; omega
  have H := hide h
  clear h
  go_enter Tryz.func10, Tryz.ntmps10
  go_wp2_with fail
  go_region
  all_goals
    go_wp2_with fail
    go_ret
    have hb : But R w (w.drew.setCell ⟨R, 2, none⟩ (.bool true)) := (But.of_below (Below.refl _ _).drew).trans (But.set w.drew 2 _)
    exact ⟨rfl, (unhide H).but hb (row3_pk2 (w := w.drew) (unhide H).cells _) (by omega), hb⟩

set_option maxRecDepth 100000 in
set_option maxHeartbeats 3200000 in
theorem short_yes (R : Nat) (w : World) (v : Value) (b : List UInt8) (a : Nat) (bad : Bool) (s : ByteArray) (rest : List UInt8) (h : SR R w v b a bad) (hp : ptx (b.drop a) = some (s, rest)) :
    Calls Tryz.prog 9 #[.pointer (some ⟨R, 0, none⟩)] w fun e w' => e = .returned (.string s) ∧ (∃ a', a < a' ∧ SR R w' v b a' bad ∧ rest = b.drop a') ∧ But R w w' := by
  obtain ⟨ha, hle, hs, hr⟩ := ptx_yes hp
  have HN := hide (one_yes R w v b a bad h ha)
  have hsm := h.small
  have hx8 := b[a].toNat_lt
  rw [hs]
  clear h hp hs
  generalize b[a].toNat = n at *
  have HR := hide hr
  clear hr
  go_enter Tryz.func9, Tryz.ntmps9
  go_wp2_with fail
  refine (unhide HN).mono ?_
  rintro e w1 ⟨rfl, hsr1, hb1⟩
  have k0 := hsr1.cells.cell (i := 0) (by omega); have k1 := hsr1.cells.cell (i := 1) (by omega); have f1 := hsr1.cells.frozen 1
  simp only [row3] at k0 k1
  obtain ⟨g, o, capv, hv, -, -⟩ := hsr1.row.form (by omega)
  subst hv
  have hcap : b.length ≤ capv := hsr1.row.cap
  have hby := cut_bytes (w := w1) hsr1.row (a + 1) n hle hcap hsm
  have HSR := hide hsr1; have HB1 := hide hb1
  have hq : decide ((b.length : Int) - ((a : Int) + 1) < n) = false := by simp; omega
  have hi1 : (a : Int) + 1 + n - n = (a : Int) + 1 := by omega
  have hi2 : (a : Int) + 1 ≤ (a : Int) + 1 + n := by omega
  have hi3 : (a : Int) + 1 + n ≤ capv := by omega
  have hbW : But R w1 (w1.setCell ⟨R, 1, none⟩ (.int .i64 ((a : Int) + 1 + n))).drew.drew := (But.set w1 1 _).trans (But.of_below (Below.refl _ _).drew.drew)
  have HN2 := hide (hsr1.but (bad' := bad) hbW (by rw [show (((a + 1 + n : Nat) : Int)) = (a : Int) + 1 + n from by omega]; exact (row3_un1 hsr1.cells _).of_block rfl) hle)
  have hbyW : BytesAt (w1.setCell ⟨R, 1, none⟩ (.int .i64 ((a : Int) + 1 + n))).drew.drew (.slice (if capv = a + 1 then some ⟨g, o, none⟩ else Option.map (fun (x : Addr) => x.add (a + 1)) (some (⟨g, o, none⟩ : Addr))) (a + 1 + n - (a + 1)) (capv - (a + 1))) ((b.drop (a + 1)).take n) := cut_bytes (unhide HN2).row (a + 1) n hle hcap hsm
  have hconv := hbyW.str
  have HB2 := hide (hb1.trans hbW)
  have HAW := hide (show a < a + 1 + n from by omega)
  clear hsr1 hb1 HN hby hbyW hbW
  have hi0 : 0 ≤ (a : Int) + 1 + n := by omega
  have hi4 : 0 ≤ (a : Int) + 1 := by omega
  have hwr : IntKind.i64.wrap ((a : Int) + 1) = (a : Int) + 1 := by rw [IntKind.wrap_i64]; omega
  have hna : ((a : Int) + 1).toNat = a + 1 := by omega
  have hnb : ((a : Int) + 1 + n).toNat = a + 1 + n := by omega
  by_cases hca : capv = a + 1
  · subst hca
    have hn0 : n = 0 := by omega
    subst hn0
    rw [if_pos rfl] at hconv
    simp only [Nat.add_zero, Nat.sub_self, Int.natCast_zero, Int.add_zero] at hconv
    simp only [List.take_zero] at hconv ⊢
    go_wp2_with fail
    go_region
    all_goals
      go_wp2_with fail
      go_region_law (fail)
      all_goals
        go_wp2_with fail
        go_ret
        exact ⟨rfl, ⟨_, unhide HAW, unhide HN2, unhide HR⟩, unhide HB2⟩
  · rw [if_neg hca] at hconv
    simp only [Option.map_some, Addr.add_lit, Nat.add_sub_cancel_left] at hconv
    go_wp2_with fail
    go_region
    all_goals
      go_wp2_with fail
      go_region_law (fail)
      all_goals
        go_wp2_with fail
        go_ret
        exact ⟨rfl, ⟨_, unhide HAW, unhide HN2, unhide HR⟩, unhide HB2⟩

set_option maxRecDepth 100000 in
set_option maxHeartbeats 3200000 in
theorem short_no (R : Nat) (w : World) (v : Value) (b : List UInt8) (a : Nat) (bad : Bool) (h : SR R w v b a bad) (hp : ptx (b.drop a) = none) :
    Calls Tryz.prog 9 #[.pointer (some ⟨R, 0, none⟩)] w fun e w' => (∃ s : ByteArray, e = .returned (.string s) ∧ s.size ≤ 255) ∧ (∃ a', SR R w' v b a' true) ∧ But R w w' := by
  have hsm := h.small
  by_cases ha : a < b.length
  · have hgt : b.length < a + 1 + b[a].toNat := by
      rw [List.drop_eq_getElem_cons ha, ptx] at hp
      split at hp
      · cases hp
      · rename_i hn
        simp at hn
        omega
    have hx8 := b[a].toNat_lt
    have HN := hide (one_yes R w v b a bad h ha)
    clear h hp
    generalize b[a].toNat = n at *
    go_enter Tryz.func9, Tryz.ntmps9
    go_wp2_with fail
    refine (unhide HN).mono ?_
    rintro e w1 ⟨rfl, hsr1, hb1⟩
    have k0 := hsr1.cells.cell (i := 0) (by omega); have k1 := hsr1.cells.cell (i := 1) (by omega); have k2 := hsr1.cells.cell (i := 2) (by omega); have f2 := hsr1.cells.frozen 2
    simp only [row3] at k0 k1 k2
    obtain ⟨av, capv, hv⟩ := hsr1.row.slice
    subst hv
    have hq : decide ((b.length : Int) - ((a : Int) + 1) < n) = true := by simp; omega
    have hq2 : (b.length : Int) - ((a : Int) + 1) < n := by omega
    have HSR := hide hsr1; have HB1 := hide hb1
    clear hsr1 hb1 HN
    go_wp2_with fail
    go_region
    all_goals
      go_wp2_with fail
      go_ret
      have hb : But R w1 (w1.drew.setCell ⟨R, 2, none⟩ (.bool true)) := (But.of_below (Below.refl _ _).drew).trans (But.set w1.drew 2 _)
      exact ⟨⟨_, rfl, by decide⟩, ⟨a + 1, (unhide HSR).but hb (row3_pk2 (w := w1.drew) (unhide HSR).cells _) (by omega)⟩, (unhide HB1).trans hb⟩
  · have hle := h.le
    have HN := hide (one_no R w v b a bad h (by omega))
    clear h hp
    have hab : a = b.length := by omega
    go_enter Tryz.func9, Tryz.ntmps9
    go_wp2_with fail
    refine (unhide HN).mono ?_
    rintro e w1 ⟨rfl, hsr1, hb1⟩
    have k0 := hsr1.cells.cell (i := 0) (by omega); have k1 := hsr1.cells.cell (i := 1) (by omega); have f1 := hsr1.cells.frozen 1
    simp only [row3] at k0 k1
    have hq : decide ((b.length : Int) - (a : Int) < 0) = false := by simp; omega
    have hi1 : (a : Int) - 0 = a := by omega
    have hi0 : 0 ≤ (a : Int) := by omega
    have hwr : IntKind.i64.wrap (a : Int) = (a : Int) := by rw [IntKind.wrap_i64]; omega
    have hbW : But R w1 (w1.setCell ⟨R, 1, none⟩ (.int .i64 (a : Int))).drew.drew := (But.set w1 1 _).trans (But.of_below (Below.refl _ _).drew.drew)
    have HB2 := hide (hb1.trans hbW)
    rcases hsr1.row.2 with ⟨hv, h0⟩ | ⟨g, o, capv, hv, hcap, -, -⟩
    · subst hv
      have HN2 := hide (hsr1.but (bad' := true) hbW ((row3_un1 hsr1.cells _).of_block rfl) hle)
      have hby : BytesAt (w1.setCell ⟨R, 1, none⟩ (.int .i64 (a : Int))).drew.drew (.slice none 0 0) [] := ⟨none, 0, rfl, by decide, fun i hi => by simp at hi⟩
      have hconv := hby.str
      have ha0 : a = 0 := by omega
      subst ha0
      simp only [Int.natCast_zero] at *
      clear hsr1 hb1 HN hby hbW hab h0
      go_wp2_with fail
      go_region
      all_goals
        go_wp2_with fail
        go_region_law (fail)
        all_goals
          go_wp2_with fail
          go_ret
          exact ⟨⟨_, rfl, by decide⟩, ⟨_, unhide HN2⟩, unhide HB2⟩
    · subst hv
      have HN2 := hide (hsr1.but (bad' := true) hbW ((row3_un1 hsr1.cells _).of_block rfl) hle)
      have hby := cut_bytes (unhide HN2).row a 0 (by omega) hcap hsm
      have hconv := hby.str
      simp only [List.take_zero, Nat.add_zero, Nat.sub_self] at hconv
      have hi3 : (a : Int) ≤ capv := by omega
      clear hsr1 hb1 HN hby hbW hab
      by_cases hca : capv = a
      · subst hca
        rw [if_pos rfl] at hconv
        simp only [Nat.sub_self] at hconv
        go_wp2_with fail
        go_region
        all_goals
          go_wp2_with fail
          go_region_law (fail)
          all_goals
            go_wp2_with fail
            go_ret
            exact ⟨⟨_, rfl, by decide⟩, ⟨_, unhide HN2⟩, unhide HB2⟩
      · rw [if_neg hca] at hconv
        simp only [Option.map_some, Addr.add_lit] at hconv
        go_wp2_with fail
        go_region
        all_goals
          go_wp2_with fail
          go_region_law (fail)
          all_goals
            go_wp2_with fail
            go_ret
            exact ⟨⟨_, rfl, by decide⟩, ⟨_, unhide HN2⟩, unhide HB2⟩
end Go.Proofs.YtiflfcjocngiiaaGreatDoor

/- The walk of the specification's l4Reader.num: it answers some number; where the bytes are those of a number, just that. No conditions. -/

namespace Go.Proofs.YtiflfcjocngiiaaGreatDoor
open Go Go.RowKit

theorem sevB_head {m : Nat} {l rest : List UInt8} {x : UInt8} (h : x :: l = sevB m ++ rest) : (m ≤ 127 ∧ x.toNat = m ∧ l = rest) ∨ (127 < m ∧ x.toNat = 128 + m % 128 ∧ l = sevB (m / 128) ++ rest) := by
  by_cases hm : 127 < m
  · rw [sevB_more hm] at h
    simp only [List.cons_append, List.cons.injEq] at h
    refine Or.inr ⟨hm, ?_, h.2⟩
    rw [h.1]; simp; omega
  · rw [sevB_last hm] at h
    simp only [List.cons_append, List.nil_append, List.cons.injEq] at h
    refine Or.inl ⟨by omega, ?_, h.2⟩
    rw [h.1]; simp; omega

/-- What is known of the loop of num, if the bytes were those of a number. -/
def NumOk (b : List UInt8) (a0 a' : Nat) (bad0 bad' : Bool) (j n p : Nat) : Prop :=
  ∀ m rest, bad0 = false → m ≤ 999999999 → b.drop a0 = sevB m ++ rest → bad' = false ∧ ∃ m', b.drop a' = sevB m' ++ rest ∧ n + m' * p = m ∧ (j = 0 ∨ 0 < m')

/-- What the specification's num comes to. -/
def NuEnd (R : Nat) (w w' : World) (v : Value) (b : List UInt8) (a : Nat) (bad : Bool) (e : Ending) : Prop :=
  ∃ (u : Int) (a' : Nat) (bad' : Bool), e = .returned (.int .i64 u) ∧ I64 u ∧ SR R w' v b a' bad' ∧ But R w w' ∧ (bad = false → ∀ x rest, x.natAbs ≤ 999999999 → b.drop a = numB x ++ rest → u = x ∧ bad' = false ∧ b.drop a' = rest)

/-- The specification's one, whatever comes. -/
theorem one_any (R : Nat) (w : World) (v : Value) (b : List UInt8) (a : Nat) (bad : Bool) (h : SR R w v b a bad) :
    Calls Tryz.prog 10 #[.pointer (some ⟨R, 0, none⟩)] w fun e w' => ∃ (x a1 : Nat) (bad1 : Bool), e = .returned (.int .i64 (x : Int)) ∧ x ≤ 255 ∧ Hid (SR R w' v b a1 bad1) ∧ Hid (But R w w') ∧ Hid ((∃ l, b.drop a = UInt8.ofNat x :: l ∧ l = b.drop a1 ∧ bad1 = bad ∧ a < a1) ∨ (b.drop a = [] ∧ x = 0 ∧ bad1 = true ∧ a1 = a)) := by
  by_cases hlt : a < b.length
  · refine (one_yes R w v b a bad h hlt).mono ?_
    rintro e w' ⟨rfl, h1, h2⟩
    have := b[a].toNat_lt
    exact ⟨b[a].toNat, a + 1, bad, rfl, by omega, h1, h2, Or.inl ⟨b.drop (a + 1), by rw [u8_back]; exact List.drop_eq_getElem_cons hlt, rfl, rfl, by omega⟩⟩
  · refine (one_no R w v b a bad h (by omega)).mono ?_
    rintro e w' ⟨rfl, h1, h2⟩
    exact ⟨0, a, true, rfl, by omega, h1, h2, Or.inr ⟨List.drop_eq_nil_of_le (by omega), rfl, rfl, rfl⟩⟩

theorem NumOk.more {b : List UInt8} {a0 a' a2 : Nat} {bad0 bad' bad2 : Bool} {j n p x : Nat} (h : NumOk b a0 a' bad0 bad' j n p) (hx : x ≤ 255) (h128 : ¬ x < 128)
    (hc : (∃ l, b.drop a' = UInt8.ofNat x :: l ∧ l = b.drop a2 ∧ bad2 = bad' ∧ a' < a2) ∨ (b.drop a' = [] ∧ x = 0 ∧ bad2 = true ∧ a2 = a')) : NumOk b a0 a2 bad0 bad2 (j + 1) (n + x % 128 * p) (p * 128) := by
  intro m rest h0 hm hd
  obtain ⟨h1, m', h2, h3, h4⟩ := h m rest h0 hm hd
  rcases hc with ⟨l, e1, e2, e3, -⟩ | ⟨-, e2, -⟩
  · rw [e1] at h2
    have hxx : (UInt8.ofNat x).toNat = x := by simp; omega
    rcases sevB_head h2 with ⟨q1, q2, -⟩ | ⟨q1, q2, q3⟩
    · omega
    · refine ⟨by rw [e3]; exact h1, m' / 128, by rw [← e2]; exact q3, ?_, Or.inr (by omega)⟩
      have hx2 : x % 128 = m' % 128 := by omega
      rw [hx2, ← h3]
      have : m' * p = m' % 128 * p + m' / 128 * (p * 128) := by
        have h5 : m' = m' % 128 + m' / 128 * 128 := by omega
        rw [Nat.mul_comm p 128, ← Nat.mul_assoc, ← Nat.add_mul, ← h5]
      omega
  · omega

theorem NumOk.last {b : List UInt8} {a0 a' a2 : Nat} {bad0 bad' bad2 : Bool} {j n p x : Nat} (h : NumOk b a0 a' bad0 bad' j n p) (hx : x ≤ 255) (h128 : x < 128)
    (hc : (∃ l, b.drop a' = UInt8.ofNat x :: l ∧ l = b.drop a2 ∧ bad2 = bad' ∧ a' < a2) ∨ (b.drop a' = [] ∧ x = 0 ∧ bad2 = true ∧ a2 = a')) (m : Nat) (rest : List UInt8) (h0 : bad0 = false) (hm : m ≤ 999999999) (hd : b.drop a0 = sevB m ++ rest) :
    n + x % 128 * p = m ∧ bad2 = false ∧ b.drop a2 = rest := by
  obtain ⟨h1, m', h2, h3, h4⟩ := h m rest h0 hm hd
  rcases hc with ⟨l, e1, e2, e3, -⟩ | ⟨e1, -, -⟩
  · rw [e1] at h2
    have hxx : (UInt8.ofNat x).toNat = x := by simp; omega
    rcases sevB_head h2 with ⟨q1, q2, q3⟩ | ⟨q1, q2, -⟩
    · refine ⟨?_, by rw [e3]; exact h1, by rw [← e2]; exact q3⟩
      rw [Nat.mod_eq_of_lt h128, show x = m' from by omega]; exact h3
    · omega
  · rw [e1] at h2
    by_cases hm' : 127 < m'
    · rw [sevB_more hm'] at h2; cases h2
    · rw [sevB_last hm'] at h2; cases h2

theorem NumOk.over {b : List UInt8} {a0 a' : Nat} {bad0 bad' : Bool} {n p : Nat} (h : NumOk b a0 a' bad0 bad' 5 n p) (hp : p = 34359738368) (m : Nat) (rest : List UInt8) (h0 : bad0 = false) (hm : m ≤ 999999999) (hd : b.drop a0 = sevB m ++ rest) : False := by
  obtain ⟨-, m', -, h3, h4⟩ := h m rest h0 hm hd
  subst hp
  omega

set_option maxRecDepth 100000 in
set_option maxHeartbeats 3200000 in
theorem numS_any (R : Nat) (w : World) (v : Value) (b : List UInt8) (a : Nat) (bad : Bool) (h : SR R w v b a bad) :
    Calls Tryz.prog 40 #[.pointer (some ⟨R, 0, none⟩)] w fun e w' => NuEnd R w w' v b a bad e := by
  have HN := hide (one_any R w v b a bad h)
  clear h
  go_enter Tryz.func40, Tryz.ntmps40
  go_wp2_with fail
  refine (unhide HN).mono ?_
  rintro e w1 ⟨ng, a1, bad1, rfl, hng, HS1, HB1, HC1⟩
  have HFIN : Hid (bad = false → ∀ (x : Int) rest, x.natAbs ≤ 999999999 → b.drop a = numB x ++ rest → bad1 = false ∧ b.drop a1 = sevB x.natAbs ++ rest ∧ (x < 0 ↔ ng = 1)) := fun hb x rest hx hd => by
    rcases HC1.out with ⟨l, e1, e2, e3, -⟩ | ⟨e1, -⟩
    · rw [e1, numB, List.cons_append] at hd
      simp only [List.cons.injEq] at hd
      refine ⟨by rw [e3]; exact hb, by rw [← e2]; exact hd.2, ?_⟩
      have hv := congrArg UInt8.toNat hd.1
      rw [show (UInt8.ofNat ng).toNat = ng from by simp; omega] at hv
      by_cases hneg : x < 0
      · rw [if_pos hneg] at hv; simp at hv; omega
      · rw [if_neg hneg] at hv; simp at hv; omega
    · rw [e1, numB] at hd; cases hd
  clear HN HC1
  go_wp2_with fail
  go_loopw [4, 5, 6] (fun nn pl kk wr => ∃ (j n p a' : Nat) (bad' : Bool), nn = .int .i64 (n : Int) ∧ pl = .int .i64 (p : Int) ∧ kk = .int .i64 (j : Int) ∧ j ≤ 5 ∧ Hid (p = 128 ^ j) ∧ n < p ∧ p ≤ 34359738368 ∧ Hid (SR R wr v b a' bad') ∧ Hid (But R w wr) ∧ Hid (NumOk b a1 a' bad1 bad' j n p)) (fun _ _ kk _ => 5 - (intOf kk).toNat)
  case atStart => exact ⟨0, 0, 1, a1, bad1, rfl, rfl, rfl, by omega, rfl, by omega, by omega, HS1, HB1, fun m rest h0 _ hd => ⟨h0, m, hd, by omega, Or.inl rfl⟩⟩
  case round =>
    clear HS1 HB1
    obtain ⟨j, n, p, a', bad', rfl, rfl, rfl, hj, HP, hnp, hp9, HS, HB, HNO⟩ := hrel
    by_cases hj5 : j < 5
    · have hpb := pow_bound (r := j) hj5
      rw [← HP.out] at hpb
      obtain ⟨hpb1, hpb0⟩ := hpb
      have HN := hide (one_any R wr v b a' bad' HS.out)
      have hp2 : p * 128 = 128 ^ (j + 1) := by rw [HP.out, Nat.pow_succ]
      have HP2 := hide hp2
      clear hp2 HP
      go_wp2_with fail
      refine (unhide HN).mono ?_
      rintro e w2 ⟨x, a2, bad2, rfl, hx, HS2, HB2, HC2⟩
      obtain ⟨q, hq⟩ : ∃ q, q = x % 128 * p := ⟨_, rfl⟩
      have hqi : ((x : Int) % 128) * (p : Int) = (q : Int) := by rw [hq]; simp
      have hqb : q ≤ 127 * 268435456 := by rw [hq]; exact Nat.mul_le_mul (by omega) hpb1
      have hql : q ≤ 127 * p := by rw [hq]; exact Nat.mul_le_mul_right p (by omega)
      by_cases h128 : x < 128
      · have hl := fun m rest h0 hm hd => NumOk.last HNO.out hx h128 HC2.out m rest h0 hm hd
        rw [← hq] at hl
        have HL := hide hl
        have HB3 := hide (HB.out.trans HB2.out)
        clear hl hq HN HNO HC2
        by_cases hn1 : ng = 1
        · subst hn1
          go_wp2_with fail
          go_ret
          refine ⟨_, a2, bad2, rfl, ⟨by omega, by omega⟩, HS2.out, unhide HB3, fun hb y rest hy hd => ?_⟩
          obtain ⟨g1, g2, g3⟩ := HFIN.out hb y rest hy hd
          obtain ⟨k1, k2, k3⟩ := unhide HL _ rest g1 (by omega) g2
          have := g3.2 (by first | rfl | trivial)
          exact ⟨by omega, k2, k3⟩
        · have hn1b : ((ng : Int) == 1) = false := by simp; omega
          go_wp2_with fail
          go_ret
          refine ⟨_, a2, bad2, rfl, ⟨by omega, by omega⟩, HS2.out, unhide HB3, fun hb y rest hy hd => ?_⟩
          obtain ⟨g1, g2, g3⟩ := HFIN.out hb y rest hy hd
          obtain ⟨k1, k2, k3⟩ := unhide HL _ rest g1 (by omega) g2
          have : ¬ y < 0 := fun hh => hn1 (g3.1 hh)
          exact ⟨by omega, k2, k3⟩
      · have hm := NumOk.more HNO.out hx h128 HC2.out
        rw [← hq] at hm
        have HM := hide hm
        have HB3 := hide (HB.out.trans HB2.out)
        clear hm hq HN HNO HC2
        go_wp2_with fail
        go_roundw
        case rel => exact ⟨j + 1, n + q, p * 128, a2, bad2, rfl, by go_num, by go_num, by omega, HP2, by omega, by omega, HS2, HB3, HM⟩
        case measure => simp [intOf]; omega
    · have hj6 : j = 5 := by omega
      have hpp : p = 34359738368 := by rw [HP.out, hj6]
      subst hj6
      have HOV := hide (fun m rest h0 hm hd => NumOk.over HNO.out hpp m rest h0 hm hd)
      clear HNO HP
      by_cases hn1 : ng = 1
      · subst hn1
        go_wp2_with fail
        go_ret
        refine ⟨_, a', bad', rfl, ⟨by omega, by omega⟩, HS.out, HB.out, fun hb y rest hy hd => ?_⟩
        obtain ⟨g1, g2, g3⟩ := HFIN.out hb y rest hy hd
        exact (unhide HOV _ rest g1 (by omega) g2).elim
      · have hn1b : ((ng : Int) == 1) = false := by simp; omega
        go_wp2_with fail
        go_ret
        refine ⟨_, a', bad', rfl, ⟨by omega, by omega⟩, HS.out, HB.out, fun hb y rest hy hd => ?_⟩
        obtain ⟨g1, g2, g3⟩ := HFIN.out hb y rest hy hd
        exact (unhide HOV _ rest g1 (by omega) g2).elim
end Go.Proofs.YtiflfcjocngiiaaGreatDoor
