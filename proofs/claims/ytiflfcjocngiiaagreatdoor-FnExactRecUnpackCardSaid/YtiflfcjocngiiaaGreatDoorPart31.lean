/- The walk of the specification's l4Reader.tree where it reads kids; l4Reader.tree as a whole. No conditions. -/
import Derived.Test.YtiflfcjocngiiaaGreatDoorPart30
import Derived.Deep.CutRange
import Derived.Test.YtiflfcjocngiiaaGreatDoorPart18
import Derived.Test.YtiflfcjocngiiaaGreatDoorPart19
namespace Go.Proofs.YtiflfcjocngiiaaGreatDoor
open Go Go.RowKit

/-- The specification's tree at a depth. -/
def TreeS (deep : Int) : Prop := ∀ (R : Nat) (w : World) (v : Value) (b : List UInt8) (a : Nat) (bad : Bool), SR R w v b a bad →
  Calls Tryz.prog 21 #[.pointer (some ⟨R, 0, none⟩), .int .i64 deep] w fun e w' => STEnd R w w' v b a bad deep e

/-- The name of a kid is read, the kid is not. -/
def MidOk (b : List UInt8) (a0 : Nat) (bad0 : Bool) (s deep : Int) (n0 : Nat) (a' : Nat) (bad' : Bool) (k : Nat) (ns : List ByteArray) (ks : List Tr) : Prop :=
  bad0 = false → ∀ t0 rest, 0 < pT t0 deep → t0.sort = s → t0.kids.length = n0 → b.drop a0 = kidsB (decide (s = 5)) t0.names t0.kids ++ rest →
    ∃ hk : k < t0.kids.length, bad' = false ∧ ns = t0.names.take (k + 1) ∧ ks = t0.kids.take k ∧ b.drop a' = treeB t0.kids[k] ++ (kidsB (decide (s = 5)) (t0.names.drop (k + 1)) (t0.kids.drop (k + 1)) ++ rest)

theorem KidsOk.mid {b : List UInt8} {a0 : Nat} {bad0 : Bool} {s deep : Int} {n0 a' : Nat} {bad' : Bool} {k : Nat} {ns : List ByteArray} {ks : List Tr} (h : KidsOk b a0 bad0 s deep n0 a' bad' k ns ks) (hk : k < n0) (hs : s ≠ 5) : MidOk b a0 bad0 s deep n0 a' bad' k ns ks := by
  intro h0 t0 rest hp h1 h2 hd
  obtain ⟨g1, g2, g3, g4⟩ := h h0 t0 rest hp h1 h2 hd
  have hk' : k < t0.kids.length := by omega
  have hn := (ok_bare hp).2.2.1 (by rw [h1]; exact hs)
  refine ⟨hk', g1, by rw [g2, hn]; simp, g3, ?_⟩
  rw [g4, kidsB_drop hk', decide_eq_false hs]
  simp

theorem KidsOk.mid5 {b : List UInt8} {a0 : Nat} {bad0 : Bool} {s deep : Int} {n0 a' a3 : Nat} {bad' bad3 : Bool} {k : Nat} {ns : List ByteArray} {ks : List Tr} {nm : ByteArray} (h : KidsOk b a0 bad0 s deep n0 a' bad' k ns ks) (hk : k < n0) (hs : s = 5)
    (hf : bad' = false → ∀ (s0 : ByteArray) rest, s0.size < 256 → b.drop a' = shortB s0 ++ rest → nm = s0 ∧ bad3 = false ∧ b.drop a3 = rest) : MidOk b a0 bad0 s deep n0 a3 bad3 k (ns ++ [nm]) ks := by
  intro h0 t0 rest hp h1 h2 hd
  obtain ⟨g1, g2, g3, g4⟩ := h h0 t0 rest hp h1 h2 hd
  have hk' : k < t0.kids.length := by omega
  obtain ⟨hn1, hn2⟩ := ok_names hp (by rw [h1]; exact hs)
  have hkn : k < t0.names.length := by omega
  have hget : t0.names.getD k ByteArray.empty = t0.names[k] := by simp [hkn]
  rw [kidsB_drop hk', decide_eq_true hs, if_pos rfl, hget, List.append_assoc] at g4
  obtain ⟨e1, e2, e3⟩ := hf g1 t0.names[k] _ (by have := hn2 _ (List.getElem_mem hkn); omega) g4
  refine ⟨hk', e2, by rw [g2, e1, List.take_succ_eq_append_getElem hkn], g3, ?_⟩
  rw [e3, decide_eq_true hs, List.append_assoc]

theorem MidOk.kid {b : List UInt8} {a0 : Nat} {bad0 : Bool} {s deep : Int} {n0 a' a4 : Nat} {bad' bad4 : Bool} {k : Nat} {ns : List ByteArray} {ks : List Tr} {t : Tr} (h : MidOk b a0 bad0 s deep n0 a' bad' k ns ks)
    (hf : bad' = false → ∀ t0 rest, 0 < pT t0 (deep + 1) → b.drop a' = treeB t0 ++ rest → t = t0 ∧ bad4 = false ∧ b.drop a4 = rest) : KidsOk b a0 bad0 s deep n0 a4 bad4 (k + 1) ns (ks ++ [t]) := by
  intro h0 t0 rest hp h1 h2 hd
  obtain ⟨hk, g1, g2, g3, g4⟩ := h h0 t0 rest hp h1 h2 hd
  obtain ⟨e1, e2, e3⟩ := hf g1 _ _ (ok_kid hp k hk) g4
  exact ⟨e2, g2, by rw [g3, e1, List.take_succ_eq_append_getElem hk], e3⟩

/-- The kids are read, or something was bad: what is answered. -/
theorem kids_end {R Y a a2 a' n0 m k x nN capN capK : Nat} {w WW wr : World} {v : Value} {b : List UInt8} {deep : Int} {bad2 bad' : Bool} {aN aK : Option Addr} {ns : List ByteArray} {ks : List Tr} {xs : List Value} {G : List Nat} {c : C5} (hT : TwoB R w.heap.size Y w WW c) (hA : SAt R Y WW wr v b (x : Int) a' bad' (.slice aN nN capN) (.slice aK k capK) ns ks xs G) (hK : KidsOk b a2 bad2 (x : Int) deep n0 a' bad' k ns ks)
    (hF : ∀ t0 rest, 0 < pT t0 deep → b.drop a = treeB t0 ++ rest → t0.sort = x ∧ bad2 = false ∧ t0.kids.length = n0 ∧ b.drop a2 = kidsB (decide ((x : Int) = 5)) t0.names t0.kids ++ rest) (hmk : m + k = n0) (hex : m = 0 ∨ bad' = true) (hx : x < 256) (hx1 : x ≠ 1) (hx2 : x ≠ 2) (hx3 : x ≠ 3) (c0 c1 c2 c3 c4 : Value) :
    STEnd R w (((((wr.setCell ⟨w.heap.size, 0, none⟩ c0).setCell ⟨w.heap.size, 1, none⟩ c1).setCell ⟨w.heap.size, 2, none⟩ c2).setCell ⟨w.heap.size, 3, none⟩ c3).setCell ⟨w.heap.size, 4, none⟩ c4) v b a false deep (.returned (.agg #[.int .i64 (x : Int), .int .i64 0, .string ⟨#[]⟩, .slice aN nN capN, .slice aK k capK])) := by
  obtain ⟨F, hown, hnd, hFl⟩ := hA.inv.done ⟨by omega, by omega⟩ (fun y hy => by have := hA.short y hy; omega)
  have hlt := hT.lt
  have hR := hT.hR
  refine ⟨_, ⟨_, _, _, _, _⟩, F, a', bad', rfl, Own.carry _ _ F (fun y hy => by have := hFl y hy; repeat rw [Below.heap_setCell _ _ _ _ (by simp <;> omega)]) hown, hnd, fun y hy => ⟨by have := (hFl y hy).1; omega, by simp only [size_setCell]; exact (hFl y hy).2⟩, ?_, ?_, fun _ t0 rest hp hdr => ?_⟩
  · repeat refine SR.set ?_ (by omega) _ _
    exact hA.sr
  · repeat refine but_set ?_ (by omega) _ _
    exact but2_new hT.but hA.but (by omega)
  · obtain ⟨h1, h2, h3, h4⟩ := hF t0 rest hp hdr
    obtain ⟨g1, g2, g3, g4⟩ := hK h2 t0 rest hp h1 h3 h4
    rcases hex with h0 | h0
    · have hkk : t0.kids.length = k := by omega
      obtain ⟨b1, b2, b3, b4⟩ := ok_bare hp
      have hnn : t0.names.length ≤ k := by
        by_cases h5 : t0.sort = 5
        · have := (ok_names hp h5).1; omega
        · rw [b3 h5]; exact Nat.zero_le _
      rw [List.take_of_length_le hnn] at g2
      rw [List.take_of_length_le (by omega)] at g3
      rw [List.drop_eq_nil_of_le (by omega : t0.kids.length ≤ k), kidsB] at g4
      refine ⟨?_, g1, by simpa using g4⟩
      rw [tr_eta t0, h1, b1 (by omega), b2 (by omega) (by omega), g2, g3]
    · rw [g1] at h0; cases h0

set_option maxRecDepth 100000 in
set_option maxHeartbeats 12800000 in
theorem treeS_kids (deep : Int) (hd : 0 ≤ deep ∧ deep ≤ 6) (IH : TreeS (deep + 1)) (R : Nat) (w : World) (v : Value) (b : List UInt8) (a : Nat) (h : SR R w v b a false) (hlt : a < b.length) (hx1 : b[a].toNat ≠ 1) (hx2 : b[a].toNat ≠ 2) (hx3 : b[a].toNat ≠ 3) :
    Calls Tryz.prog 21 #[.pointer (some ⟨R, 0, none⟩), .int .i64 deep] w fun e w' => STEnd R w w' v b a false deep e := by
  have hN := fun o => one_yes R (w.alloc o) v b a false (h.on ((Below.refl _ w).alloc (Nat.le_refl _) o)) hlt
  have hhd := fun t0 rest (hp : 0 < pT t0 deep) hdr => tree_head (t0 := t0) (rest := rest) hlt hp hdr
  have HTB := hide (fun w1 hb (x : Int) => TwoB.startS (w1 := w1) h hb x)
  have HNU := hide (fun (W : World) (hW : SR R W v b (a + 1) false) => one_any R W v b (a + 1) false hW)
  obtain ⟨hd0, hd1⟩ := hd
  have hd6 : decide (6 < deep) = false := by simp; omega
  have hwr : IntKind.i64.wrap (deep + 1) = deep + 1 := by rw [IntKind.wrap_i64]; omega
  have hx8 := b[a].toNat_lt
  generalize b[a].toNat = x at *
  have HN := hide hN; have HHD := hide hhd; have HI := hide IH
  have z1 : ((x : Int) == 1) = false := by simp; omega
  have z2 : ((x : Int) == 2) = false := by simp; omega
  have z3 : ((x : Int) == 3) = false := by simp; omega
  obtain ⟨j0, hj, hy0, hy1, hy2⟩ := info_parts infoStr16
  obtain ⟨i0, hi, hz0, hz1, hz2⟩ := info_parts infoTree80
  have HJJ := hide hj; have HY0 := hide hy0; have HY1 := hide hy1; have HY2 := hide hy2
  have HII := hide hi; have HZ0 := hide hz0; have HZ1 := hide hz1; have HZ2 := hide hz2
  clear h hN hhd IH hj hy0 hy1 hy2 hi hz0 hz1 hz2
  go_enter Tryz.func21, Tryz.ntmps21
  go_wp2_with fail
  refine (unhide HN _).mono ?_
  rintro e w1 ⟨rfl, hS1, hb1⟩
  have hT1 := unhide HTB w1 hb1 (x : Int)
  have hlt1 := hT1.lt
  have hR1 := hT1.hR
  have hS2 : ∀ o, SR R (w1.alloc o) v b (a + 1) false := fun o => hS1.on ((Below.refl _ w1).alloc (Nat.le_refl _) o)
  have k2 := (hS2 (.cells #[.int .i64 (x : Int), .int .i64 0, .string ⟨#[]⟩, .slice none 0 0, .slice none 0 0] 39)).cells.cell (i := 2) (by omega)
  simp only [row3] at k2
  have hi1 : SInv (w1.heap.size + 1) w1.heap.size (w1.alloc (.cells #[.int .i64 (x : Int), .int .i64 0, .string ⟨#[]⟩, .slice none 0 0, .slice none 0 0] 39)) (x : Int) (.slice none 0 0) (.slice none 0 0) [] [] [] [] :=
    ⟨Nat.lt_succ_self _, hT1.rY, ⟨rfl, Or.inl ⟨rfl, rfl⟩⟩, ⟨⟨rfl, Or.inl ⟨rfl, rfl⟩⟩, ⟨rfl, rfl⟩, List.nodup_nil, fun b hb => by cases hb⟩, (fun b e => by cases e), by simp⟩
  have hsz1 : (w1.alloc (.cells #[.int .i64 (x : Int), .int .i64 0, .string ⟨#[]⟩, .slice none 0 0, .slice none 0 0] 39)).heap.size = w1.heap.size + 1 := by simp
  have HN1 := hide (unhide HNU _ (hS2 (.cells #[.int .i64 (x : Int), .int .i64 0, .string ⟨#[]⟩, .slice none 0 0, .slice none 0 0] 39)))
  have HT1 := hide hT1; have HI1 := hide hi1; have HSZ1 := hide hsz1
  clear hS1 hb1 HN HTB HNU hT1 hS2 hi1 hsz1
  go_wp2_with fail
  refine (unhide HN1).mono ?_
  rintro e w2 ⟨n0, a2, bad2, rfl, hn0, HS2, HB2, HC2⟩
  have HA2 : Hid (SAt R w1.heap.size (w1.alloc (.cells #[.int .i64 (x : Int), .int .i64 0, .string ⟨#[]⟩, .slice none 0 0, .slice none 0 0] 39)) w2 v b (x : Int) a2 bad2 (.slice none 0 0) (.slice none 0 0) [] [] [] []) :=
    ⟨HS2.out, (unhide HI1).but HB2.out (by omega) (by omega), But2.ofR HB2.out, unhide HSZ1, by omega, fun y hy => by cases hy⟩
  have HK2 : Hid (KidsOk b a2 bad2 (x : Int) deep n0 a2 bad2 0 [] []) := fun h0 t0 rest _ _ _ hdr => ⟨h0, by simp, by simp, by simpa using hdr⟩
  have hfin : ∀ t0 rest, 0 < pT t0 deep → b.drop a = treeB t0 ++ rest → t0.sort = x ∧ bad2 = false ∧ t0.kids.length = n0 ∧ b.drop a2 = kidsB (decide ((x : Int) = 5)) t0.names t0.kids ++ rest := fun t0 rest hp hdr => by
    obtain ⟨h1, h2⟩ := unhide HHD t0 rest hp hdr
    rw [if_neg (by omega), if_neg (by omega), if_neg (by omega), List.cons_append] at h2
    rcases HC2.out with ⟨l, e1, e2, e3, -⟩ | ⟨e1, -⟩
    · rw [e1] at h2
      simp only [List.cons.injEq] at h2
      have hv := congrArg UInt8.toNat h2.1
      have hm := ok_many hp
      rw [show (UInt8.ofNat n0).toNat = n0 from by simp; omega, show (UInt8.ofNat t0.kids.length).toNat = t0.kids.length from by simp; omega] at hv
      exact ⟨h1.symm, e3, hv.symm, by rw [← e2, h2.2, h1]⟩
    · rw [e1] at h2; cases h2
  have HFIN := hide hfin
  clear hfin HC2 HS2 HB2 HN1 HI1 HSZ1 HHD k2
  generalize hWW : (w1.alloc (.cells #[.int .i64 (x : Int), .int .i64 0, .string ⟨#[]⟩, .slice none 0 0, .slice none 0 0] 39)) = WW at *
  clear hWW
  go_wp2_with fail
  go_loopw [6] (fun nn wr => ∃ (m k a' : Nat) (bad' : Bool) (aN : Option Addr) (nN capN : Nat) (aK : Option Addr) (capK : Nat) (ns : List ByteArray) (ks : List Tr) (xs : List Value) (G : List Nat), nn = .int .i64 (m : Int) ∧ m + k = n0 ∧ Hid (nN = ns.length ∧ k = ks.length ∧ nN ≤ k) ∧ Hid (SAt R w1.heap.size WW wr v b (x : Int) a' bad' (.slice aN nN capN) (.slice aK k capK) ns ks xs G) ∧ Hid (KidsOk b a2 bad2 (x : Int) deep n0 a' bad' k ns ks)) (fun nn _ => (intOf nn).toNat)
  case atStart => exact ⟨n0, 0, a2, bad2, none, 0, 0, none, 0, [], [], [], [], rfl, by omega, ⟨rfl, rfl, Nat.le_refl _⟩, HA2, HK2⟩
  case round =>
    clear HA2 HK2
    obtain ⟨m, k, a', bad', aN, nN, capN, aK, capK, ns, ks, xs, G, rfl, hmk, HLN, HA, HK⟩ := hrel
    have kb := HA.out.sr.cells.cell (i := 2) (by omega)
    simp only [row3] at kb
    by_cases hm0 : m = 0
    · have HEXC : m = 0 ∨ bad' = true := Or.inl hm0
      have hq : decide (0 < (m : Int)) = false := by simp; omega
      have HEX := hide (kids_end (unhide HT1) HA.out HK.out (unhide HFIN) hmk HEXC hx8 hx1 hx2 hx3)
      have hT2X := (unhide HT1).rX.of_block (HA.out.but.block _ (unhide HT1).rX.lt (by omega) (by omega))
      have p0 := hT2X.cell (i := 0) (by omega); have p1 := hT2X.cell (i := 1) (by omega); have p2 := hT2X.cell (i := 2) (by omega); have p3 := hT2X.cell (i := 3) (by omega); have p4 := hT2X.cell (i := 4) (by omega); have pf := hT2X.frozen
      have q0 := HA.out.inv.cells.cell (i := 0) (by omega); have q1 := HA.out.inv.cells.cell (i := 1) (by omega); have q2 := HA.out.inv.cells.cell (i := 2) (by omega); have q3 := HA.out.inv.cells.cell (i := 3) (by omega); have q4 := HA.out.inv.cells.cell (i := 4) (by omega); have qf := HA.out.inv.cells.frozen
      simp only [row5] at p0 p1 p2 p3 p4 q0 q1 q2 q3 q4
      have hne : w.heap.size ≠ w1.heap.size := by omega
      have hne2 : w1.heap.size ≠ w.heap.size := by omega
      clear hT2X HEXC
      go_wp2_with fail
      refine bodyPost_ret (v := .agg #[.int .i64 (x : Int), .int .i64 0, .string ⟨#[]⟩, .slice aN nN capN, .slice aK k capK]) (by simp [results, Tryz.results21, go_sem, p0, p1, p2, p3, p4]) rfl ?_
      exact unhide HEX _ _ _ _ _
    have hq : decide (0 < (m : Int)) = true := by simp; omega
    cases bad' with
    | true =>
      have HEXC : m = 0 ∨ true = true := Or.inr rfl
      have HEX := hide (kids_end (unhide HT1) HA.out HK.out (unhide HFIN) hmk HEXC hx8 hx1 hx2 hx3)
      have hT2X := (unhide HT1).rX.of_block (HA.out.but.block _ (unhide HT1).rX.lt (by omega) (by omega))
      have p0 := hT2X.cell (i := 0) (by omega); have p1 := hT2X.cell (i := 1) (by omega); have p2 := hT2X.cell (i := 2) (by omega); have p3 := hT2X.cell (i := 3) (by omega); have p4 := hT2X.cell (i := 4) (by omega); have pf := hT2X.frozen
      have q0 := HA.out.inv.cells.cell (i := 0) (by omega); have q1 := HA.out.inv.cells.cell (i := 1) (by omega); have q2 := HA.out.inv.cells.cell (i := 2) (by omega); have q3 := HA.out.inv.cells.cell (i := 3) (by omega); have q4 := HA.out.inv.cells.cell (i := 4) (by omega); have qf := HA.out.inv.cells.frozen
      simp only [row5] at p0 p1 p2 p3 p4 q0 q1 q2 q3 q4
      have hne : w.heap.size ≠ w1.heap.size := by omega
      have hne2 : w1.heap.size ≠ w.heap.size := by omega
      clear hT2X HEXC
      go_wp2_with fail
      refine bodyPost_ret (v := .agg #[.int .i64 (x : Int), .int .i64 0, .string ⟨#[]⟩, .slice aN nN capN, .slice aK k capK]) (by simp [results, Tryz.results21, go_sem, p0, p1, p2, p3, p4]) rfl ?_
      exact unhide HEX _ _ _ _ _
    | false =>
      have e0 := HA.out.inv.cells.cell (i := 0) (by omega)
      have e3 := HA.out.inv.cells.cell (i := 3) (by omega)
      simp only [row5] at e0 e3
      by_cases h5 : (x : Int) = 5
      · have z5 : ((x : Int) == 5) = true := by simp; omega
        have H5 := hide h5
        clear h5
        have hcallN : Calls Tryz.prog 9 #[.pointer (some ⟨R, 0, none⟩)] wr.drew fun e w4 => ∃ (nm : ByteArray) (a3 : Nat) (bad3 : Bool), e = .returned (.string nm) ∧ nm.size ≤ 255 ∧ Hid (SAt R w1.heap.size WW w4 v b (x : Int) a3 bad3 (.slice aN nN capN) (.slice aK k capK) ns ks xs G) ∧ Hid (MidOk b a2 bad2 (x : Int) deep n0 a3 bad3 k (ns ++ [nm]) ks) ∧ w4.cell? ⟨w1.heap.size, 3, none⟩ = some (.slice aN nN capN) ∧ (∀ ob, (w4.alloc ob).cell? ⟨w1.heap.size, 3, none⟩ = some (.slice aN nN capN)) := by
          refine (short_any R wr.drew v b a' false HA.out.drew.sr).mono ?_
          rintro e w4 ⟨nm, a3, bad3, rfl, hnm, HS4, HB4, HF4⟩
          have hk4 := HA.out.drew.read HB4.out HS4.out
          exact ⟨nm, a3, bad3, rfl, hnm, hk4, HK.out.mid5 (by omega) (unhide H5) HF4.out, hk4.inv.cells.cell (i := 3) (by omega), fun ob => (hk4.inv.cells.alloc ob).cell (i := 3) (by omega)⟩
        have HCN := hide hcallN
        clear hcallN
        go_wp2_with fail
        go_cut [] from 44 to 73 (fun wx => ∃ (aN1 : Option Addr) (nN1 cap1 a3 : Nat) (bad3 : Bool) (ns1 : List ByteArray), Hid (SAt R w1.heap.size WW wx v b (x : Int) a3 bad3 (.slice aN1 nN1 cap1) (.slice aK k capK) ns1 ks xs G) ∧ Hid (nN1 = ns1.length ∧ nN1 ≤ k + 1) ∧ Hid (MidOk b a2 bad2 (x : Int) deep n0 a3 bad3 k ns1 ks))
        case first =>
          go_region_law (first
            | (rw [if_pos (by first | rfl | simp [Region.wanted])]; go_simp; refine (unhide HCN).mono ?_; rintro e w4 ⟨nm, a3, bad3, rfl, hnm, HA4, HM4, t3, t3a⟩)
            | (refine step_append_lies _ (by rfl) _ _ _ (by rfl) (w1.heap.size + 1) 9 j0 (.string ByteArray.empty) 1 16 Tryz.underlying36 (unhide HJJ) (unhide HY0) (unhide HY1) (unhide HY2) rfl (by decide) (.slice aN nN capN) nN (ns.map Value.string) (by rfl) (by have := (unhide HA4).inv.names; rw [← HLN.out.1] at this; exact this.alloc _) ⟨w4.heap.size, 0, none⟩ 1 1 [.string nm] (by rfl) (by rfl) (cell_one w4 _ _) (fun u hu => by simp at hu; subst hu; rfl) (by decide) (by have := HLN.out.2.2; unfold maxLen; omega) (by have := HLN.out.2.2; omega) (by have := (unhide HA4).inv.size; simp; omega) (w4.heap.size + 1) (by simp) ?_
               intro g1 cap1 w6 hown6 hgrow6 hat6 hlt6
               have uz := (SInv.atN (unhide HA4).inv hgrow6).frozen 3
               have u3 := (SInv.atN (unhide HA4).inv hgrow6).cell (i := 3) (by omega)
               simp only [row5] at u3
               have HN6 := hide (SAt.name (nm := nm) ((unhide HA4).alloc (.cells #[.string nm] 9)) hnm (by rw [← HLN.out.1]; exact hown6) hgrow6 (hat6.elim (fun e => Or.inl (by rw [e]; rfl)) (fun e => Or.inr ⟨g1, rfl, by rw [World.size_alloc, e]; exact Nat.le_refl _⟩)))
               clear hown6 hgrow6 hat6 hlt6))
          all_goals
            go_wp2_with fail
            go_meet
            exact ⟨some ⟨g1, 0, none⟩, nN + 1, cap1, a3, bad3, ns ++ [nm], HN6, ⟨by simp [HLN.out.1], by have := HLN.out.2.2; omega⟩, HM4⟩
        case rest =>
          obtain ⟨aN1, nN1, cap1, a3, bad3, ns1, HA3, HLN1, HM3⟩ := hcut
          clear HA HK e0 e3 kb
          have hcall : Calls Tryz.prog 21 #[.pointer (some ⟨R, 0, none⟩), .int .i64 (deep + 1)] wc.drew fun e w7 => ∃ (x0 x1 : Int) (x2 : ByteArray) (ap : Option Addr) (np cp : Nat) (aq : Option Addr) (nq cq : Nat) (F : List Nat) (t : Tr) (a4 : Nat) (bad4 : Bool), e = .returned (.agg #[.int .i64 x0, .int .i64 x1, .string x2, .slice ap np cp, .slice aq nq cq]) ∧ Hid (Own w7 t ⟨.int .i64 x0, .int .i64 x1, .string x2, .slice ap np cp, .slice aq nq cq⟩ F) ∧ F.Nodup ∧ Hid (∀ b, b ∈ F → wc.heap.size ≤ b ∧ b < w7.heap.size) ∧ Hid (SAt R w1.heap.size WW w7 v b (x : Int) a4 bad4 (.slice aN1 nN1 cap1) (.slice aK k capK) ns1 ks xs G) ∧ Hid (KidsOk b a2 bad2 (x : Int) deep n0 a4 bad4 (k + 1) ns1 (ks ++ [t])) ∧ w7.cell? ⟨w1.heap.size, 4, none⟩ = some (.slice aK k capK) ∧ (∀ ob, (w7.alloc ob).cell? ⟨w1.heap.size, 4, none⟩ = some (.slice aK k capK)) := by
            refine (unhide HI R wc.drew v b a3 bad3 HA3.out.drew.sr).mono ?_
            rintro e w7 ⟨t, ⟨y0, y1, y2, y3, y4⟩, F, a4, bad4, rfl, ho, hnd, hF, hS7, hb7, hf7⟩
            obtain ⟨p0, p1, p2, -, -, -, F1, F2, -, ⟨ap, cp, p3, -⟩, aq, cq, p4, -⟩ := ho.open
            simp only at p0 p1 p2 p3 p4
            subst p0 p1 p2 p3 p4
            have hk7 := HA3.out.drew.read hb7 hS7
            exact ⟨_, _, _, _, _, _, _, _, _, F, t, a4, bad4, rfl, ho, hnd, hF, hk7, HM3.out.kid hf7, hk7.inv.cells.cell (i := 4) (by omega), fun ob => (hk7.inv.cells.alloc ob).cell (i := 4) (by omega)⟩
          have HCALL := hide hcall
          have e4 := HA3.out.inv.cells.cell (i := 4) (by omega)
          simp only [row5] at e4
          clear hcall
          go_wp2_with fail
          go_region_law (first
            | (rw [if_pos (by first | rfl | simp [Region.wanted])]; go_simp; refine (unhide HCALL).mono ?_; rintro e w7 ⟨x0, x1, x2, ap, np, cp, aq, nq, cq, F, t, a4, bad4, rfl, HOW, hFn, HFL, HA7, HK7, t4c, t4d⟩)
            | (refine step_append_lies _ (by rfl) _ _ _ (by rfl) (w1.heap.size + 1) 39 i0 _ 5 80 Tryz.underlying37 (unhide HII) (unhide HZ0) (unhide HZ1) (unhide HZ2) rfl (by decide) (.slice aK k capK) k xs (by rfl) (by have := (unhide HA7).inv.got.row; rw [← HLN.out.2.1] at this; exact this.alloc _) ⟨w7.heap.size, 0, none⟩ 1 1 (c5l ⟨.int .i64 x0, .int .i64 x1, .string x2, .slice ap np cp, .slice aq nq cq⟩) (by rfl) (by rfl) (cell_five w7 _ _) (unhide HOW).one (by decide) (by unfold maxLen; omega) (by omega) (by have := (unhide HA7).inv.size; simp; omega) (w7.heap.size + 1) (by simp) ?_
               intro g2 cap2 w8 hown8 hgrow8 hat8 hlt8
               have uz := (SInv.atK (unhide HA7).inv hgrow8).frozen 4
               have u4 := (SInv.atK (unhide HA7).inv hgrow8).cell (i := 4) (by omega)
               simp only [row5] at u4
               have HN8 := hide (SAt.kid (m := wc.heap.size) ((unhide HA7).alloc (.cells #[.int .i64 x0, .int .i64 x1, .string x2, .slice ap np cp, .slice aq nq cq] 39)) (Own.carry t _ F (fun y hy => Below.heap_alloc _ _ _ (unhide HFL y hy).2) (unhide HOW)) hFn (fun y hy => ⟨(unhide HFL y hy).1, by rw [World.size_alloc]; have := (unhide HFL y hy).2; omega⟩) (fun y hy => (HA3.out.inv.got.lt y hy).2.1) (fun y e => (HA3.out.inv.got.row.lt y e).2) (fun y e => (HA3.out.inv.names.lt y e).2) HA3.out.inv.size (by rw [← HLN.out.2.1]; exact hown8) hgrow8 (hat8.elim (fun e => Or.inl (by rw [e]; rfl)) (fun e => Or.inr ⟨g2, rfl, by rw [World.size_alloc, e]; exact Nat.le_refl _⟩)))
               clear hown8 hgrow8 hat8 hlt8))
          all_goals
            go_wp2_with fail
            go_roundw
            case rel => exact ⟨m - 1, k + 1, a4, bad4, aN1, nN1, cap1, some ⟨g2, 0, none⟩, cap2, ns1, ks ++ [t], _, _, by go_num, by omega, ⟨HLN1.out.1, by simp [HLN.out.2.1], HLN1.out.2⟩, HN8, HK7⟩
            case measure => simp [intOf]; omega
      · have z5 : ((x : Int) == 5) = false := by simp; omega
        obtain ⟨aN1, nN1, cap1, a3, bad3, ns1, HA3, HLN1, HM3⟩ : ∃ (aN1 : Option Addr) (nN1 cap1 a3 : Nat) (bad3 : Bool) (ns1 : List ByteArray), Hid (SAt R w1.heap.size WW wr v b (x : Int) a3 bad3 (.slice aN1 nN1 cap1) (.slice aK k capK) ns1 ks xs G) ∧ Hid (nN1 = ns1.length ∧ nN1 ≤ k + 1) ∧ Hid (MidOk b a2 bad2 (x : Int) deep n0 a3 bad3 k ns1 ks) := ⟨aN, nN, capN, a', false, ns, HA, ⟨HLN.out.1, by have := HLN.out.2.2; omega⟩, HK.out.mid (by omega) h5⟩
        clear HA HK e3
        have hcall : Calls Tryz.prog 21 #[.pointer (some ⟨R, 0, none⟩), .int .i64 (deep + 1)] wr.drew fun e w7 => ∃ (x0 x1 : Int) (x2 : ByteArray) (ap : Option Addr) (np cp : Nat) (aq : Option Addr) (nq cq : Nat) (F : List Nat) (t : Tr) (a4 : Nat) (bad4 : Bool), e = .returned (.agg #[.int .i64 x0, .int .i64 x1, .string x2, .slice ap np cp, .slice aq nq cq]) ∧ Hid (Own w7 t ⟨.int .i64 x0, .int .i64 x1, .string x2, .slice ap np cp, .slice aq nq cq⟩ F) ∧ F.Nodup ∧ Hid (∀ b, b ∈ F → wr.heap.size ≤ b ∧ b < w7.heap.size) ∧ Hid (SAt R w1.heap.size WW w7 v b (x : Int) a4 bad4 (.slice aN1 nN1 cap1) (.slice aK k capK) ns1 ks xs G) ∧ Hid (KidsOk b a2 bad2 (x : Int) deep n0 a4 bad4 (k + 1) ns1 (ks ++ [t])) ∧ w7.cell? ⟨w1.heap.size, 4, none⟩ = some (.slice aK k capK) ∧ (∀ ob, (w7.alloc ob).cell? ⟨w1.heap.size, 4, none⟩ = some (.slice aK k capK)) := by
          refine (unhide HI R wr.drew v b a3 bad3 HA3.out.drew.sr).mono ?_
          rintro e w7 ⟨t, ⟨y0, y1, y2, y3, y4⟩, F, a4, bad4, rfl, ho, hnd, hF, hS7, hb7, hf7⟩
          obtain ⟨p0, p1, p2, -, -, -, F1, F2, -, ⟨ap, cp, p3, -⟩, aq, cq, p4, -⟩ := ho.open
          simp only at p0 p1 p2 p3 p4
          subst p0 p1 p2 p3 p4
          have hk7 := HA3.out.drew.read hb7 hS7
          exact ⟨_, _, _, _, _, _, _, _, _, F, t, a4, bad4, rfl, ho, hnd, hF, hk7, HM3.out.kid hf7, hk7.inv.cells.cell (i := 4) (by omega), fun ob => (hk7.inv.cells.alloc ob).cell (i := 4) (by omega)⟩
        have HCALL := hide hcall
        have e4 := HA3.out.inv.cells.cell (i := 4) (by omega)
        simp only [row5] at e4
        clear hcall
        go_wp2_with fail
        go_region_law (first
          | (rw [if_pos (by first | rfl | simp [Region.wanted])]; go_simp; refine (unhide HCALL).mono ?_; rintro e w7 ⟨x0, x1, x2, ap, np, cp, aq, nq, cq, F, t, a4, bad4, rfl, HOW, hFn, HFL, HA7, HK7, t4c, t4d⟩)
          | (refine step_append_lies _ (by rfl) _ _ _ (by rfl) (w1.heap.size + 1) 39 i0 _ 5 80 Tryz.underlying37 (unhide HII) (unhide HZ0) (unhide HZ1) (unhide HZ2) rfl (by decide) (.slice aK k capK) k xs (by rfl) (by have := (unhide HA7).inv.got.row; rw [← HLN.out.2.1] at this; exact this.alloc _) ⟨w7.heap.size, 0, none⟩ 1 1 (c5l ⟨.int .i64 x0, .int .i64 x1, .string x2, .slice ap np cp, .slice aq nq cq⟩) (by rfl) (by rfl) (cell_five w7 _ _) (unhide HOW).one (by decide) (by unfold maxLen; omega) (by omega) (by have := (unhide HA7).inv.size; simp; omega) (w7.heap.size + 1) (by simp) ?_
             intro g2 cap2 w8 hown8 hgrow8 hat8 hlt8
             have uz := (SInv.atK (unhide HA7).inv hgrow8).frozen 4
             have u4 := (SInv.atK (unhide HA7).inv hgrow8).cell (i := 4) (by omega)
             simp only [row5] at u4
             have HN8 := hide (SAt.kid (m := wr.heap.size) ((unhide HA7).alloc (.cells #[.int .i64 x0, .int .i64 x1, .string x2, .slice ap np cp, .slice aq nq cq] 39)) (Own.carry t _ F (fun y hy => Below.heap_alloc _ _ _ (unhide HFL y hy).2) (unhide HOW)) hFn (fun y hy => ⟨(unhide HFL y hy).1, by rw [World.size_alloc]; have := (unhide HFL y hy).2; omega⟩) (fun y hy => (HA3.out.inv.got.lt y hy).2.1) (fun y e => (HA3.out.inv.got.row.lt y e).2) (fun y e => (HA3.out.inv.names.lt y e).2) HA3.out.inv.size (by rw [← HLN.out.2.1]; exact hown8) hgrow8 (hat8.elim (fun e => Or.inl (by rw [e]; rfl)) (fun e => Or.inr ⟨g2, rfl, by rw [World.size_alloc, e]; exact Nat.le_refl _⟩)))
             clear hown8 hgrow8 hat8 hlt8))
        all_goals
          go_wp2_with fail
          go_roundw
          case rel => exact ⟨m - 1, k + 1, a4, bad4, aN1, nN1, cap1, some ⟨g2, 0, none⟩, cap2, ns1, ks ++ [t], _, _, by go_num, by omega, ⟨HLN1.out.1, by simp [HLN.out.2.1], HLN1.out.2⟩, HN8, HK7⟩
          case measure => simp [intOf]; omega
end Go.Proofs.YtiflfcjocngiiaaGreatDoor

/- The specification's l4Reader.tree as a whole; small laws of the walk of its EventUnpack. No conditions. -/

namespace Go.Proofs.YtiflfcjocngiiaaGreatDoor
open Go Go.RowKit

theorem treeS_all : ∀ (n : Nat) (deep : Int), 0 ≤ deep → deep ≤ 7 → 7 - deep ≤ n → TreeS deep
  | 0, deep, h0, h7, hn => fun R w v b a bad h => treeS_stop R w v b a bad deep h ⟨h0, h7⟩ (Or.inr (Or.inl (by omega)))
  | n + 1, deep, h0, h7, hn => fun R w v b a bad h => by
    by_cases hd : 6 < deep
    · exact treeS_stop R w v b a bad deep h ⟨h0, h7⟩ (Or.inr (Or.inl hd))
    cases bad with
    | true => exact treeS_stop R w v b a true deep h ⟨h0, h7⟩ (Or.inl rfl)
    | false =>
      by_cases hlt : a < b.length
      · by_cases h1 : b[a].toNat = 1
        · exact treeS_num R w v b a deep h ⟨h0, by omega⟩ hlt h1
        by_cases h2 : b[a].toNat = 2
        · exact treeS_text R w v b a deep h ⟨h0, by omega⟩ hlt h2
        by_cases h3 : b[a].toNat = 3
        · exact treeS_flag R w v b a deep h ⟨h0, by omega⟩ hlt h3
        exact treeS_kids deep ⟨h0, by omega⟩ (treeS_all n (deep + 1) (by omega) (by omega) (by omega)) R w v b a h hlt h1 h2 h3
      · exact treeS_stop R w v b a false deep h ⟨h0, h7⟩ (Or.inr (Or.inr (by omega)))

/-- What was read, if the bytes are those of an event that is ok. -/
def RdOk (b : List UInt8) (ty : ByteArray) (x : Nat) (t : Tr) (a3 : Nat) (bad3 : Bool) : Prop :=
  ∀ ty0 ver0 t0, UpE b ty0 ver0 t0 → ty0 = ty ∧ ver0 = (x : Int) ∧ t0 = t ∧ bad3 = false ∧ a3 = b.length

theorem RdOk.make {b : List UInt8} {ty : ByteArray} {a1 a2 a3 x : Nat} {bad1 bad2 bad3 : Bool} {t : Tr}
    (h1 : ∀ (s0 : ByteArray) rest, s0.size < 256 → b.drop 0 = shortB s0 ++ rest → ty = s0 ∧ bad1 = false ∧ b.drop a1 = rest)
    (h2 : (∃ l, b.drop a1 = UInt8.ofNat x :: l ∧ l = b.drop a2 ∧ bad2 = bad1 ∧ a1 < a2) ∨ (b.drop a1 = [] ∧ x = 0 ∧ bad2 = true ∧ a2 = a1)) (hx : x ≤ 255)
    (h3 : bad2 = false → ∀ t0 rest, 0 < pT t0 1 → b.drop a2 = treeB t0 ++ rest → t = t0 ∧ bad3 = false ∧ b.drop a3 = rest) (hle : a3 ≤ b.length) : RdOk b ty x t a3 bad3 := by
  rintro ty0 ver0 t0 ⟨ho, he⟩
  have hf := evOk_facts ho
  have hE : b.drop 0 = shortB ty0 ++ (UInt8.ofNat ver0.toNat :: (treeB t0 ++ [])) := by rw [List.drop_zero, ← he, eventB]; simp
  obtain ⟨e1, e2, e3⟩ := h1 ty0 _ (by omega) hE
  rcases h2 with ⟨l, g1, g2, g3, -⟩ | ⟨g1, -⟩
  · rw [e3] at g1
    simp only [List.cons.injEq] at g1
    have hv := congrArg UInt8.toNat g1.1
    rw [show (UInt8.ofNat x).toNat = x from by simp; omega, show (UInt8.ofNat ver0.toNat).toNat = ver0.toNat from by simp; omega] at hv
    obtain ⟨q1, q2, q3⟩ := h3 (by rw [g3]; exact e2) t0 [] hf.2.2.2.2.2.2 (by rw [← g2, g1.2])
    have : b.length ≤ a3 := by simpa [List.drop_eq_nil_iff] using q3
    exact ⟨e1.symm, by omega, q1.symm, q2, by omega⟩
  · rw [e3] at g1; cases g1

set_option maxRecDepth 100000 in
set_option maxHeartbeats 800000 in
theorem l4Same_any (v1 v2 : Value) (l1 l2 : List UInt8) (w : World) (h1 : BytesAt w v1 l1) (h2 : BytesAt w v2 l2) :
    Calls Tryz.prog 23 #[v1, v2] w fun e w' => e = .returned (.bool (decide (l1 = l2))) ∧ w' = w := by
  have c1 := h1.str
  have c2 := h2.str
  clear h1 h2
  go_enter Tryz.func23, Tryz.ntmps23
  go_wp2_with fail
  go_ret
  refine ⟨?_, rfl⟩
  by_cases h : l1 = l2
  · subst h; simp
  · simp [h]
end Go.Proofs.YtiflfcjocngiiaaGreatDoor
