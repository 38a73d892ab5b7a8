/- The program's byteCursor in memory, and the walks of its add, take, next, text. No conditions. -/
import Derived.Test.YtiflfcjocngiiaaGreatDoorPart01
import Derived.Test.YtiflfcjocngiiaaGreatDoorPart04
namespace Go.Proofs.YtiflfcjocngiiaaGreatDoor
open Go Go.RowKit

/-- The cursor: how many bytes were taken, how many there are, and the bytes. -/
structure Cu (R : Nat) (w : World) (v : Value) (b : List UInt8) (at' : Nat) : Prop where
  cells : w.rowIs R 59 3 (row3 (.int .i64 at') (.int .i64 b.length) v)
  row : ByIn w v b
  own : ∀ g, v.ownBlock = some g → g < R
  le : at' ≤ b.length
  small : b.length ≤ 1048576

theorem Cu.but {R : Nat} {w w' : World} {v : Value} {b : List UInt8} {a a' : Nat} (h : Cu R w v b a) (hb : But R w w') (hc : w'.rowIs R 59 3 (row3 (.int .i64 a') (.int .i64 b.length) v)) (hle : a' ≤ b.length) : Cu R w' v b a' :=
  ⟨hc, ByIn.kept h.row hb (by
    rcases e : v.ownBlock with _ | g
    · exact Or.inl rfl
    · exact Or.inr (fun e2 => by have := h.own g e; simp at e2; omega)), h.own, hle, h.small⟩
theorem Cu.on {R : Nat} {w w' : World} {v : Value} {b : List UInt8} {a : Nat} (h : Cu R w v b a) (hb : Below w.heap.size w w') : Cu R w' v b a :=
  ⟨h.cells.of_block (hb.block _ h.cells.lt), h.row.stay hb, h.own, h.le, h.small⟩

set_option maxRecDepth 100000 in
set_option maxHeartbeats 800000 in
theorem addT_yes (T : TypeId) (w : World) (B : Nat) (c k m : Nat) (v : Value) (h : w.rowIs B T 3 (row3 (.int .i64 c) (.int .i64 m) v)) (hc : c + k ≤ m) (hm : m ≤ 1048576) :
    Calls Tryz.prog 48 #[.pointer (some ⟨B, 0, none⟩), .int .i64 k] w fun e w' => e = .returned (.tuple #[]) ∧ w'.rowIs B T 3 (row3 (.int .i64 ((c + k : Nat) : Int)) (.int .i64 m) v) ∧ But B w w' := by
  have k0 := h.cell (i := 0) (by omega); have k1 := h.cell (i := 1) (by omega); have f0 := h.frozen 0
  simp only [row3] at k0 k1
  have hle : decide ((c : Int) + k ≤ m) = true := by simp; omega
  have H := hide h
  clear h
  go_enter Tryz.func48, Tryz.ntmps48
  go_wp2_with fail
  go_quiet ((go_at_call 32; exact Calls.quiet_of_same (treeWant_yes _)))
  go_wp2_with fail
  go_end0
  refine ⟨rfl, ?_, ?_⟩
  · have := row3_set0 (unhide H) (.int .i64 ((c : Int) + k))
    rw [Int.natCast_add]
    exact this.of_block (by simp)
  · exact (But.set w 0 _).trans (But.of_below (below_drewN (Below.refl _ _) _))

set_option maxRecDepth 100000 in
set_option maxHeartbeats 800000 in
theorem addT_no (T : TypeId) (w : World) (B : Nat) (c k m : Nat) (v : Value) (h : w.rowIs B T 3 (row3 (.int .i64 c) (.int .i64 m) v)) (hc : m < c + k) (hm : c + k ≤ 1099511627776) :
    Calls Tryz.prog 48 #[.pointer (some ⟨B, 0, none⟩), .int .i64 k] w fun e w' => e = fltE ∧ But B w w' := by
  have k0 := h.cell (i := 0) (by omega); have k1 := h.cell (i := 1) (by omega); have f0 := h.frozen 0
  simp only [row3] at k0 k1
  have hle : decide ((c : Int) + k ≤ m) = false := by simp; omega
  clear h
  go_enter Tryz.func48, Tryz.ntmps48
  go_wp2_with fail
  go_region_law (rw [if_pos (by first | rfl | simp [Region.wanted])]; go_simp; refine (treeWant_no _).mono ?_; rintro e w2 ⟨rfl, rfl⟩; refine dead_end (by assumption) { tmps := #[], defers := [] } w (And.intro rfl (And.intro rfl ((But.set w 0 _).trans (But.of_below (Below.refl _ _).drew)))) (fun HF => ?_))
  all_goals exact (unhide HF).elim

theorem BytesAt.str {w : World} {v : Value} {l : List UInt8} (h : BytesAt w v l) : (convert 31 9 v).run Tryz.prog w = .ok (.string ⟨l.toArray⟩) w := by
  obtain ⟨a, cap, rfl, -, hc⟩ := h
  match a, hc with
  | some ad, hc =>
    obtain ⟨g, o, sp⟩ := ad
    refine run_convert_bytes_back w 31 9 5 ⟨g, o, sp⟩ cap l Tryz.underlying31 Tryz.underlying5 Tryz.underlying9 (fun j hj => ?_)
    obtain ⟨b, o', e, -, hcell⟩ := hc j hj
    simp only [Option.some.injEq, Addr.mk.injEq] at e
    obtain ⟨rfl, rfl, rfl⟩ := e
    rw [Addr.add_lit]
    exact hcell
  | none, hc =>
    match l, hc with
    | [], _ =>
      rw [run_convert_bytes_string w 31 9 5 none _ cap Tryz.underlying31 Tryz.underlying5 Tryz.underlying9]
      rfl
    | x :: r, hc =>
      obtain ⟨b, o', e, -⟩ := hc 0 (by simp)
      cases e

theorem own_add {R n cap m c : Nat} {a : Nat} {av : Option Addr} (h : ∀ g, (Value.slice av n cap).ownBlock = some g → g < R) {g : Nat} (e : (Value.slice (Option.map (fun x => x.add a) av) m c).ownBlock = some g) : g < R := by
  cases av with
  | none => cases e
  | some x =>
    refine h g ?_
    simp only [Option.map_some, Value.ownBlock, Option.some.injEq, Addr.add] at e ⊢
    split at e <;> exact e
theorem own_len {R n cap m c : Nat} {av : Option Addr} (h : ∀ g, (Value.slice av n cap).ownBlock = some g → g < R) {g : Nat} (e : (Value.slice av m c).ownBlock = some g) : g < R := by
  cases av with
  | none => cases e
  | some x => exact h g e
set_option maxRecDepth 100000 in
set_option maxHeartbeats 800000 in
theorem takeP_in (R : Nat) (w : World) (v : Value) (b : List UInt8) (a n : Nat) (h : Cu R w v b a) (hn : a + n ≤ b.length) :
    Calls Tryz.prog 31 #[.pointer (some ⟨R, 0, none⟩), .int .i64 n] w fun e w' => (∃ v', e = .returned v' ∧ ByIn w' v' ((b.drop a).take n) ∧ ∀ g, v'.ownBlock = some g → g < R) ∧ Cu R w' v b (a + n) ∧ But R w w' := by
  have hsm := h.small
  have k0 := h.cells.cell (i := 0) (by omega)
  simp only [row3] at k0
  have HADD := hide (addT_yes 59 w R a n b.length v h.cells hn hsm)
  have H := hide h
  clear h
  go_enter Tryz.func31, Tryz.ntmps31
  go_wp2_with fail
  refine (unhide HADD).mono ?_
  rintro e w1 ⟨rfl, hr1, hb1⟩
  have hcu := (unhide H).but hb1 hr1 (by omega)
  have m0 := hr1.cell (i := 0) (by omega); have m2 := hr1.cell (i := 2) (by omega)
  simp only [row3] at m0 m2
  have HCU := hide hcu; have HB1 := hide hb1
  obtain ⟨av, capv, rfl⟩ := hcu.row.slice
  have hcap : b.length ≤ capv := hcu.row.cap
  clear hcu hr1 hb1 HADD k0
  have hby : ByIn w1 (.slice (if capv = a then av else Option.map (fun x => x.add a) av) (a + n - a) (capv - a)) ((b.drop a).take n) := by rw [Nat.add_sub_cancel_left]; exact cut_in (unhide HCU).row a n hn hsm
  have hown := (unhide HCU).own
  have hi1 : (a : Int) ≤ (a : Int) + n := by omega
  have hi2 : (a : Int) + n ≤ capv := by omega
  have hi3 : ((a : Int) + n - a).toNat = n := by omega
  rw [Int.natCast_add] at m0
  by_cases hca : capv = a
  · subst hca
    have hn0 : n = 0 := by omega
    subst hn0
    rw [if_pos rfl, Nat.add_sub_cancel_left, Nat.sub_self] at hby
    have HBY := hide hby
    clear hby
    go_wp2_with fail
    go_region
    all_goals
      go_wp2_with fail
      go_ret
      exact ⟨⟨_, rfl, (unhide HBY).stay (Below.refl _ w1).drew, fun g e => own_len hown e⟩, (unhide HCU).on (Below.refl _ w1).drew, (unhide HB1).trans (But.of_below (Below.refl _ w1).drew)⟩
  · rw [if_neg hca] at hby
    have HBY := hide hby
    clear hby
    go_wp2_with fail
    go_region
    all_goals
      go_wp2_with fail
      go_ret
      exact ⟨⟨_, rfl, (unhide HBY).stay (Below.refl _ w1).drew, fun g e => own_add hown e⟩, (unhide HCU).on (Below.refl _ w1).drew, (unhide HB1).trans (But.of_below (Below.refl _ w1).drew)⟩

theorem takeP_yes (R : Nat) (w : World) (v : Value) (b : List UInt8) (a n : Nat) (h : Cu R w v b a) (hn : a + n ≤ b.length) :
    Calls Tryz.prog 31 #[.pointer (some ⟨R, 0, none⟩), .int .i64 n] w fun e w' => (∃ v', e = .returned v' ∧ BytesAt w' v' ((b.drop a).take n)) ∧ Cu R w' v b (a + n) ∧ But R w w' :=
  (takeP_in R w v b a n h hn).mono fun _ _ ⟨⟨v', h1, h2, _⟩, h3⟩ => ⟨⟨v', h1, h2.at⟩, h3⟩

set_option maxRecDepth 100000 in
set_option maxHeartbeats 800000 in
theorem takeP_no (R : Nat) (w : World) (v : Value) (b : List UInt8) (a n : Nat) (h : Cu R w v b a) (hn : b.length < a + n) (hs : n ≤ 1048576) :
    Calls Tryz.prog 31 #[.pointer (some ⟨R, 0, none⟩), .int .i64 n] w fun e w' => e = fltE ∧ But R w w' := by
  have k0 := h.cells.cell (i := 0) (by omega)
  simp only [row3] at k0
  have HADD := hide (addT_no 59 w R a n b.length v h.cells hn (by have := h.small; have := h.le; omega))
  clear h
  go_enter Tryz.func31, Tryz.ntmps31
  go_wp2_with fail
  refine (unhide HADD).mono ?_
  rintro e w1 ⟨rfl, hb1⟩
  exact ⟨rfl, rfl, hb1⟩

set_option maxRecDepth 100000 in
set_option maxHeartbeats 800000 in
theorem nextP_yes (R : Nat) (w : World) (v : Value) (b : List UInt8) (a : Nat) (h : Cu R w v b a) (hn : a < b.length) :
    Calls Tryz.prog 29 #[.pointer (some ⟨R, 0, none⟩)] w fun e w' => e = .returned (.int .i64 (b[a].toNat : Int)) ∧ Cu R w' v b (a + 1) ∧ But R w w' := by
  have HT := hide (takeP_yes R w v b a 1 h (by omega))
  have hx : (b.drop a).take 1 = [b[a]] := by rw [List.drop_eq_getElem_cons hn]; rfl
  rw [hx] at HT
  clear h
  have hlt := b[a].toNat_lt
  generalize b[a] = x at *
  go_enter Tryz.func29, Tryz.ntmps29
  go_wp2_with fail
  refine (unhide HT).mono ?_
  rintro e w1 ⟨⟨v', rfl, a', cap', rfl, -, hc⟩, hcu, hb1⟩
  obtain ⟨g, o, rfl, -, e0⟩ := hc 0 (by simp)
  simp only [List.getElem_cons_zero, Nat.add_zero] at e0
  have HCU := hide hcu; have HB := hide hb1
  clear hcu hb1 hc HT
  go_wp2_with fail
  go_ret
  exact ⟨rfl, unhide HCU, unhide HB⟩

set_option maxRecDepth 100000 in
set_option maxHeartbeats 800000 in
theorem nextP_no (R : Nat) (w : World) (v : Value) (b : List UInt8) (a : Nat) (h : Cu R w v b a) (hn : b.length ≤ a) :
    Calls Tryz.prog 29 #[.pointer (some ⟨R, 0, none⟩)] w fun e w' => e = fltE ∧ But R w w' := by
  have HT := hide (takeP_no R w v b a 1 h (by omega) (by decide))
  clear h
  go_enter Tryz.func29, Tryz.ntmps29
  go_wp2_with fail
  refine (unhide HT).mono ?_
  rintro e w1 ⟨rfl, hb1⟩
  exact ⟨rfl, rfl, hb1⟩

/-- What is left. -/
theorem ptx_yes {b : List UInt8} {a : Nat} {s : ByteArray} {rest : List UInt8} (h : ptx (b.drop a) = some (s, rest)) : ∃ ha : a < b.length, a + 1 + b[a].toNat ≤ b.length ∧ s = ⟨((b.drop (a + 1)).take b[a].toNat).toArray⟩ ∧ rest = b.drop (a + 1 + b[a].toNat) := by
  by_cases ha : a < b.length
  · rw [List.drop_eq_getElem_cons ha, ptx] at h
    split at h
    · rename_i hn
      simp only [Option.some.injEq, Prod.mk.injEq] at h
      refine ⟨ha, by simp at hn; omega, h.1.symm, ?_⟩
      rw [← h.2, List.drop_drop]
    · cases h
  · rw [List.drop_eq_nil_of_le (by omega), ptx] at h
    cases h

set_option maxRecDepth 100000 in
set_option maxHeartbeats 800000 in
theorem textP_yes (R : Nat) (w : World) (v : Value) (b : List UInt8) (a : Nat) (s : ByteArray) (rest : List UInt8) (h : Cu R w v b a) (hp : ptx (b.drop a) = some (s, rest)) :
    Calls Tryz.prog 28 #[.pointer (some ⟨R, 0, none⟩)] w fun e w' => e = .returned (.string s) ∧ (∃ a', a < a' ∧ Cu R w' v b a' ∧ rest = b.drop a') ∧ But R w w' := by
  obtain ⟨ha, hle, hs, hr⟩ := ptx_yes hp
  have HN := hide (nextP_yes R w v b a h ha)
  have HTK := hide (fun (W : World) (hW : Cu R W v b (a + 1)) => takeP_yes R W v b (a + 1) b[a].toNat hW (by omega))
  rw [hs]
  clear h hp
  generalize b[a].toNat = n at *
  have HR := hide hr
  clear hr hs
  generalize (b.drop (a + 1)).take n = L at *
  go_enter Tryz.func28, Tryz.ntmps28
  go_wp2_with fail
  refine (unhide HN).mono ?_
  rintro e w1 ⟨rfl, hcu1, hb1⟩
  have HT1 := hide (unhide HTK w1 hcu1)
  have HB1 := hide hb1
  clear hcu1 hb1 HTK HN
  go_wp2_with fail
  refine (unhide HT1).mono ?_
  rintro e w2 ⟨⟨v', rfl, hby⟩, hcu2, hb2⟩
  have hst := hby.str
  have HB2 := hide ((unhide HB1).trans hb2); have HCU := hide hcu2
  obtain ⟨a', cap', rfl, -⟩ := hby
  clear hcu2 hb2 HT1 HB1
  go_wp2_with fail
  go_ret
  exact ⟨rfl, ⟨a + 1 + n, by omega, unhide HCU, unhide HR⟩, unhide HB2⟩

set_option maxRecDepth 100000 in
set_option maxHeartbeats 800000 in
theorem textP_no (R : Nat) (w : World) (v : Value) (b : List UInt8) (a : Nat) (h : Cu R w v b a) (hp : ptx (b.drop a) = none) :
    Calls Tryz.prog 28 #[.pointer (some ⟨R, 0, none⟩)] w fun e w' => e = fltE ∧ But R w w' := by
  by_cases ha : a < b.length
  · have hgt : b.length < a + 1 + b[a].toNat := by
      rw [List.drop_eq_getElem_cons ha, ptx] at hp
      split at hp
      · cases hp
      · rename_i hn
        simp at hn
        omega
    have hlt := b[a].toNat_lt
    have HN := hide (nextP_yes R w v b a h ha)
    have HTK := hide (fun (W : World) (hW : Cu R W v b (a + 1)) => takeP_no R W v b (a + 1) b[a].toNat hW hgt (by omega))
    clear h hp
    generalize b[a].toNat = n at *
    go_enter Tryz.func28, Tryz.ntmps28
    go_wp2_with fail
    refine (unhide HN).mono ?_
    rintro e w1 ⟨rfl, hcu1, hb1⟩
    have HT1 := hide (unhide HTK w1 hcu1)
    have HB1 := hide hb1
    clear hcu1 hb1 HTK HN
    go_wp2_with fail
    refine (unhide HT1).mono ?_
    rintro e w2 ⟨rfl, hb2⟩
    exact ⟨rfl, rfl, (unhide HB1).trans hb2⟩
  · have HN := hide (nextP_no R w v b a h (by omega))
    clear h hp
    go_enter Tryz.func28, Tryz.ntmps28
    go_wp2_with fail
    refine (unhide HN).mono ?_
    rintro e w1 ⟨rfl, hb1⟩
    exact ⟨rfl, rfl, hb1⟩
end Go.Proofs.YtiflfcjocngiiaaGreatDoor

/- The walks of the program's byteCursor: size and num. No conditions. -/

namespace Go.Proofs.YtiflfcjocngiiaaGreatDoor
open Go Go.RowKit

/-- What reading comes to: a value and what is left, or a fault. -/
def RdEndU {α : Type} (R : Nat) (w w' : World) (v : Value) (b : List UInt8) (a : Nat) (res : Option (α × List UInt8)) (val : α → Value) (e : Ending) : Prop :=
  But R w w' ∧ match res with
    | some (x, rest) => e = .returned (val x) ∧ ∃ a', a < a' ∧ Cu R w' v b a' ∧ rest = b.drop a'
    | none => e = fltE

theorem psz_cons {r p a : Nat} {x : UInt8} {l : List UInt8} : psz (r + 1) p a (x :: l) = if x.toNat < 128 then (if a + x.toNat % 128 * p ≤ 999999999 ∧ (0 < x.toNat ∨ p = 1) then some (a + x.toNat % 128 * p, l) else none) else psz r (p * 128) (a + x.toNat % 128 * p) l := by rw [psz]

theorem pow_bound {r : Nat} (h : r < 5) : 128 ^ r ≤ 268435456 ∧ 0 < 128 ^ r := by
  rcases (show r = 0 ∨ r = 1 ∨ r = 2 ∨ r = 3 ∨ r = 4 by omega) with rfl | rfl | rfl | rfl | rfl <;> decide

set_option maxRecDepth 100000 in
set_option maxHeartbeats 3200000 in
theorem sizeP_any (R : Nat) (w : World) (v : Value) (b : List UInt8) (a : Nat) (h : Cu R w v b a) :
    Calls Tryz.prog 80 #[.pointer (some ⟨R, 0, none⟩)] w fun e w' => RdEndU R w w' v b a (psz 5 1 0 (b.drop a)) (fun s => .int .i64 (s : Int)) e := by
  have HC := hide h
  clear h
  go_enter Tryz.func80, Tryz.ntmps80
  go_wp2_with fail
  go_loopw [3, 4] (fun sz pl wr => ∃ (k p acc a' : Nat), k ≤ 5 ∧ sz = .int .i64 (acc : Int) ∧ pl = .int .i64 (p : Int) ∧ Hid (p = 128 ^ k) ∧ acc < p ∧ p ≤ 34359738368 ∧ Hid (Cu R wr v b a') ∧ Hid (But R w wr) ∧ Hid (psz (5 - k) p acc (b.drop a') = psz 5 1 0 (b.drop a)) ∧ a ≤ a') (fun _ pl _ => 34359738369 - (intOf pl).toNat)
  case atStart => exact ⟨0, 1, 0, a, by omega, rfl, rfl, rfl, by omega, by omega, HC, But.refl _ _, rfl, Nat.le_refl _⟩
  case round =>
    obtain ⟨k, p, acc, a', hk, rfl, rfl, HP, hac, hp9, HCU, HB, HZ, haa⟩ := hrel
    by_cases hk5 : k = 5
    · have hpp : p = 34359738368 := by rw [HP.out, hk5]
      have hno : psz 5 1 0 (b.drop a) = none := by rw [← HZ.out, hk5]; rfl
      have HNO := hide hno
      clear hno HP
      go_wp2_with fail
      refine ⟨rfl, HB.out, ?_⟩
      rw [unhide HNO]
    · have hpb := pow_bound (r := k) (by omega)
      rw [← HP.out] at hpb
      obtain ⟨hpb1, hpb0⟩ := hpb
      obtain ⟨r, hr⟩ : ∃ r, 5 - k = r + 1 := ⟨4 - k, by omega⟩
      have hz := HZ.out
      rw [hr] at hz
      by_cases hlt : a' < b.length
      · have HNX := hide (nextP_yes R wr v b a' HCU.out hlt)
        have hx := b[a'].toNat_lt
        rw [List.drop_eq_getElem_cons hlt, psz_cons] at hz
        generalize b[a'].toNat = x at *
        obtain ⟨q, hq⟩ : ∃ q, q = x % 128 * p := ⟨_, rfl⟩
        have hqi : ((x : Int) % 128) * (p : Int) = (q : Int) := by rw [hq]; simp
        have hqb : q ≤ 127 * 268435456 := by rw [hq]; exact Nat.mul_le_mul (by omega) hpb1
        rw [← hq] at hz
        have hql : q ≤ 127 * p := by rw [hq]; exact Nat.mul_le_mul_right p (by omega)
        have HQ := hide hq
        clear hq HZ
        by_cases h128 : x < 128
        · rw [if_pos h128] at hz
          by_cases c1 : acc + q ≤ 999999999
          · have c1i : (acc : Int) + q ≤ 999999999 := by omega
            by_cases c2 : 0 < x
            · rw [if_pos ⟨c1, Or.inl c2⟩] at hz
              have HZ := hide hz
              clear hz HP
              go_wp2_with fail
              refine (unhide HNX).mono ?_
              rintro e w1 ⟨rfl, hcu1, hb1⟩
              have HCU1 := hide hcu1; have HB1 := hide (HB.out.trans hb1)
              clear hcu1 hb1 HNX
              go_wp2_with (go_at_call 32; refine (treeWant_yes _).mono ?_; rintro e w2 ⟨rfl, rfl⟩)
              go_ret
              refine ⟨unhide HB1, ?_⟩
              rw [← HZ.out]
              exact ⟨rfl, a' + 1, by omega, unhide HCU1, rfl⟩
            · have hx0 : x = 0 := by omega
              subst hx0
              by_cases c3 : p = 1
              · rw [if_pos ⟨c1, Or.inr c3⟩] at hz
                subst c3
                have hacc0 : acc = 0 := by omega
                have hq0 : q = 0 := by have := unhide HQ; simpa using this
                subst hacc0 hq0
                have HZ := hide hz
                clear hz HP c2
                go_wp2_with fail
                refine (unhide HNX).mono ?_
                rintro e w1 ⟨rfl, hcu1, hb1⟩
                have HCU1 := hide hcu1; have HB1 := hide (HB.out.trans hb1)
                clear hcu1 hb1 HNX
                go_wp2_with (go_at_call 32; refine (treeWant_yes _).mono ?_; rintro e w2 ⟨rfl, rfl⟩)
                go_ret
                refine ⟨unhide HB1, ?_⟩
                rw [← HZ.out]
                exact ⟨rfl, a' + 1, by omega, unhide HCU1, rfl⟩
              · rw [if_neg (fun hh => by rcases hh.2 with h1 | h1 <;> omega)] at hz
                have c3b : ((p : Int) == 1) = false := by simp; omega
                have HZ := hide hz
                clear hz HP c2 c3
                go_wp2_with fail
                refine (unhide HNX).mono ?_
                rintro e w1 ⟨rfl, hcu1, hb1⟩
                have HB1 := hide (HB.out.trans hb1)
                clear hcu1 hb1 HNX
                go_wp2_with fail
                refine (treeWant_no _).mono ?_
                rintro e w2 ⟨rfl, rfl⟩
                refine ⟨rfl, unhide HB1, ?_⟩
                rw [← HZ.out]
          · have c1i : ¬ ((acc : Int) + q ≤ 999999999) := by omega
            rw [if_neg (fun hh => c1 hh.1)] at hz
            have HZ := hide hz
            clear hz HP
            go_wp2_with fail
            refine (unhide HNX).mono ?_
            rintro e w1 ⟨rfl, hcu1, hb1⟩
            have HB1 := hide (HB.out.trans hb1)
            clear hcu1 hb1 HNX
            go_wp2_with fail
            refine (treeWant_no _).mono ?_
            rintro e w2 ⟨rfl, rfl⟩
            refine ⟨rfl, unhide HB1, ?_⟩
            rw [← HZ.out]
        · rw [if_neg h128] at hz
          have hr2 : 5 - (k + 1) = r := by omega
          rw [← hr2] at hz
          have hp2 : p * 128 = 128 ^ (k + 1) := by rw [HP.out, Nat.pow_succ]
          have HZ := hide hz; have HP2 := hide hp2
          clear hz HP hp2 hr2
          go_wp2_with fail
          refine (unhide HNX).mono ?_
          rintro e w1 ⟨rfl, hcu1, hb1⟩
          have HCU1 := hide hcu1; have HB1 := hide (HB.out.trans hb1)
          clear hcu1 hb1 HNX
          go_wp2_with fail
          go_roundw
          case rel => exact ⟨k + 1, p * 128, acc + q, a' + 1, by omega, rfl, by go_num, HP2, by omega, by omega, HCU1, HB1, HZ, by omega⟩
          case measure => simp [intOf]; omega
      · have HNX := hide (nextP_no R wr v b a' HCU.out (by omega))
        have hno : psz 5 1 0 (b.drop a) = none := by rw [← hz, List.drop_eq_nil_of_le (by omega), psz]
        have HNO := hide hno
        clear hno hz HP HZ
        go_wp2_with fail
        refine (unhide HNX).mono ?_
        rintro e w1 ⟨rfl, hb1⟩
        refine ⟨rfl, HB.out.trans hb1, ?_⟩
        rw [unhide HNO]

set_option maxRecDepth 100000 in
set_option maxHeartbeats 1600000 in
theorem numP_any (R : Nat) (w : World) (v : Value) (b : List UInt8) (a : Nat) (h : Cu R w v b a) :
    Calls Tryz.prog 74 #[.pointer (some ⟨R, 0, none⟩)] w fun e w' => RdEndU R w w' v b a (pnum (b.drop a)) (fun s => .int .i64 s) e := by
  by_cases hlt : a < b.length
  · have HNX := hide (nextP_yes R w v b a h hlt)
    have HSZ := hide (fun (W : World) (hW : Cu R W v b (a + 1)) => sizeP_any R W v b (a + 1) hW)
    have hx := b[a].toNat_lt
    have hz : pnum (b.drop a) = (match psz 5 1 0 (b.drop (a + 1)) with | none => none | some (s, r) => if b[a].toNat = 0 ∨ (b[a].toNat = 1 ∧ 0 < s) then some (if b[a].toNat = 1 then -(s : Int) else s, r) else none) := by rw [List.drop_eq_getElem_cons hlt, pnum]; rfl
    have hsb : ∀ s rest, psz 5 1 0 (b.drop (a + 1)) = some (s, rest) → s ≤ 999999999 := fun s rest hs => by obtain ⟨_, _, _, _, h4⟩ := psz_sound _ _ _ _ _ _ (by decide) hs; exact h4
    clear h
    generalize b[a].toNat = x at *
    generalize pnum (b.drop a) = res at *
    cases hs : psz 5 1 0 (b.drop (a + 1)) with
    | none =>
      rw [hs] at hz HSZ
      simp only at hz
      subst hz
      clear hs hsb
      go_enter Tryz.func74, Tryz.ntmps74
      go_wp2_with fail
      refine (unhide HNX).mono ?_
      rintro e w1 ⟨rfl, hcu1, hb1⟩
      have HS := hide (unhide HSZ w1 hcu1); have HB1 := hide hb1
      clear hcu1 hb1 HNX HSZ
      go_wp2_with fail
      refine (unhide HS).mono ?_
      rintro e w2 ⟨hb2, rfl⟩
      exact ⟨rfl, (unhide HB1).trans hb2, rfl⟩
    | some y =>
      obtain ⟨s, rest⟩ := y
      have hs9 := hsb s rest hs
      rw [hs] at hz HSZ
      simp only at hz
      clear hs hsb
      rcases (show x = 0 ∨ (x = 1 ∧ 0 < s) ∨ (x = 1 ∧ s = 0) ∨ (x ≠ 0 ∧ x ≠ 1) by omega) with hc | ⟨hc, hc2⟩ | ⟨hc, hc2⟩ | ⟨hc, hc2⟩
      · subst hc
        simp at hz
        subst hz
        go_enter Tryz.func74, Tryz.ntmps74
        go_wp2_with fail
        refine (unhide HNX).mono ?_
        rintro e w1 ⟨rfl, hcu1, hb1⟩
        have HS := hide (unhide HSZ w1 hcu1); have HB1 := hide hb1
        clear hcu1 hb1 HNX HSZ
        go_wp2_with fail
        refine (unhide HS).mono ?_
        rintro e w2 ⟨hb2, rfl, a', ha', hcu2, hr2⟩
        have HCU := hide hcu2; have HB2 := hide ((unhide HB1).trans hb2); have HR := hide hr2
        clear hb2 hcu2 HS HB1 hr2
        go_wp2_with (go_at_call 32; refine (treeWant_yes _).mono ?_; rintro e w2 ⟨rfl, rfl⟩)
        go_ret
        exact ⟨unhide HB2, rfl, a', by omega, unhide HCU, unhide HR⟩
      · subst hc
        simp [hc2] at hz
        subst hz
        have hneg : ¬ ((s : Int) = 0) := by omega
        go_enter Tryz.func74, Tryz.ntmps74
        go_wp2_with fail
        refine (unhide HNX).mono ?_
        rintro e w1 ⟨rfl, hcu1, hb1⟩
        have HS := hide (unhide HSZ w1 hcu1); have HB1 := hide hb1
        clear hcu1 hb1 HNX HSZ
        go_wp2_with fail
        refine (unhide HS).mono ?_
        rintro e w2 ⟨hb2, rfl, a', ha', hcu2, hr2⟩
        have HCU := hide hcu2; have HB2 := hide ((unhide HB1).trans hb2); have HR := hide hr2
        clear hb2 hcu2 HS HB1 hr2
        go_wp2_with (go_at_call 32; refine (treeWant_yes _).mono ?_; rintro e w2 ⟨rfl, rfl⟩)
        go_ret
        exact ⟨unhide HB2, rfl, a', by omega, unhide HCU, unhide HR⟩
      · subst hc hc2
        simp at hz
        subst hz
        go_enter Tryz.func74, Tryz.ntmps74
        go_wp2_with fail
        refine (unhide HNX).mono ?_
        rintro e w1 ⟨rfl, hcu1, hb1⟩
        have HS := hide (unhide HSZ w1 hcu1); have HB1 := hide hb1
        clear hcu1 hb1 HNX HSZ
        go_wp2_with fail
        refine (unhide HS).mono ?_
        rintro e w2 ⟨hb2, rfl, a', ha', hcu2, hr2⟩
        have HB2 := hide ((unhide HB1).trans hb2)
        clear hb2 hcu2 HS HB1 hr2
        go_wp2_with fail
        refine (treeWant_no _).mono ?_
        rintro e w3 ⟨rfl, rfl⟩
        exact ⟨rfl, unhide HB2, rfl⟩
      · rw [if_neg (by omega)] at hz
        subst hz
        have q0 : ((x : Int) == 0) = false := by simp; omega
        have q1 : ((x : Int) == 1) = false := by simp; omega
        clear hc hc2
        go_enter Tryz.func74, Tryz.ntmps74
        go_wp2_with fail
        refine (unhide HNX).mono ?_
        rintro e w1 ⟨rfl, hcu1, hb1⟩
        have HS := hide (unhide HSZ w1 hcu1); have HB1 := hide hb1
        clear hcu1 hb1 HNX HSZ
        go_wp2_with fail
        refine (unhide HS).mono ?_
        rintro e w2 ⟨hb2, rfl, a', ha', hcu2, hr2⟩
        have HB2 := hide ((unhide HB1).trans hb2)
        clear hb2 hcu2 HS HB1 hr2
        go_wp2_with fail
        refine (treeWant_no _).mono ?_
        rintro e w3 ⟨rfl, rfl⟩
        exact ⟨rfl, unhide HB2, rfl⟩
  · have HNX := hide (nextP_no R w v b a h (by omega))
    rw [List.drop_eq_nil_of_le (by omega), pnum]
    clear h
    go_enter Tryz.func74, Tryz.ntmps74
    go_wp2_with fail
    refine (unhide HNX).mono ?_
    rintro e w1 ⟨rfl, hb1⟩
    exact ⟨rfl, hb1, rfl⟩
end Go.Proofs.YtiflfcjocngiiaaGreatDoor
