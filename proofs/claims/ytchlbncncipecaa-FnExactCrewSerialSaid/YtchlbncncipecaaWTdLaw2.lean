/- The walks of the law's own functions on what is told: eqCrewTold, markCrewTold, heldCrewTold. The marks count to at most 2^40. -/
import Derived.Test.YtchlbncncipecaaWJbLaw2
namespace Go.Proofs.Ytchlbncncipecaa
open Go Go.RowKit

def row6 (a b c d e f : Value) : Nat → Value
  | 0 => a
  | 1 => b
  | 2 => c
  | 3 => d
  | 4 => e
  | _ => f
theorem row6_alloc (w : World) (a b c d e f : Value) (t : TypeId) : (w.alloc (.cells #[a, b, c, d, e, f] t)).rowIs w.heap.size t 6 (row6 a b c d e f) :=
  World.rowIs_alloc w #[a, b, c, d, e, f] t _ (fun i hi => by
    have hi' : i < 6 := hi
    match i, hi' with
    | 0, _ => rfl
    | 1, _ => rfl
    | 2, _ => rfl
    | 3, _ => rfl
    | 4, _ => rfl
    | 5, _ => rfl)
theorem sbox1 {w w1 : World} {a b c d e f : Value} {tx : TypeId} (hb : Below (w.alloc (.cells #[a, b, c, d, e, f] tx)).heap.size (w.alloc (.cells #[a, b, c, d, e, f] tx)) w1) :
    w1.rowIs w.heap.size tx 6 (row6 a b c d e f) ∧ w.heap.size + 1 ≤ w1.heap.size ∧ Below w.heap.size w w1 := by
  have r0 := row6_alloc w a b c d e f tx
  have hs := hb.size
  refine ⟨r0.of_block (hb.block _ r0.lt), by simpa using hs, ?_⟩
  exact ((Below.refl _ _).alloc (Nat.le_refl _) _).trans (hb.mono (by simp))
theorem sbox2 {w w1 : World} {a b c d e f a' b' c' d' e' f' : Value} {tx ty : TypeId}
    (hb : Below ((w.alloc (.cells #[a, b, c, d, e, f] tx)).alloc (.cells #[a', b', c', d', e', f'] ty)).heap.size ((w.alloc (.cells #[a, b, c, d, e, f] tx)).alloc (.cells #[a', b', c', d', e', f'] ty)) w1) :
    w1.rowIs w.heap.size tx 6 (row6 a b c d e f) ∧ w1.rowIs (w.heap.size + 1) ty 6 (row6 a' b' c' d' e' f') ∧ w.heap.size + 2 ≤ w1.heap.size ∧ Below w.heap.size w w1 := by
  have e1 : (w.alloc (.cells #[a, b, c, d, e, f] tx)).heap.size = w.heap.size + 1 := by simp
  have r0 := (row6_alloc w a b c d e f tx).alloc (.cells #[a', b', c', d', e', f'] ty)
  have r1 := row6_alloc (w.alloc (.cells #[a, b, c, d, e, f] tx)) a' b' c' d' e' f' ty
  rw [e1] at r1
  have hs := hb.size
  refine ⟨r0.of_block (hb.block _ r0.lt), r1.of_block (hb.block _ r1.lt), by simpa using hs, ?_⟩
  exact (((Below.refl _ _).alloc (Nat.le_refl _) _).alloc (by simp) _).trans (hb.mono (by simp; omega))

set_option maxRecDepth 100000 in
set_option maxHeartbeats 1600000 in
theorem eqCrewTold_any (t : Td) (P Q : Nat → Prop) (vI vD uI uD : Value) (w : World) (hP : ∀ b, P b → b < w.heap.size) (hQ : ∀ b, Q b → b < w.heap.size) (hI : ZAt P w vI t.items) (hD : HAt P w vD t.dead) (kI : ZAt Q w uI t.items) (kD : HAt Q w uD t.dead) :
    Calls Try.prog 28 #[.agg #[.bool t.ok, vI, vD, .int .i64 t.jobs, .int .i64 0, .int .i64 0], .agg #[.bool t.ok, uI, uD, .int .i64 t.jobs, .int .i64 0, .int .i64 0]] w fun e w' => e = .returned (.bool true) ∧ Below w.heap.size w w' := by
  have hbx : ∀ o o2, Below w.heap.size w ((w.alloc o).alloc o2) := fun o o2 => ((Below.refl _ _).alloc (Nat.le_refl _) o).alloc (by simp) o2
  have HE1 := hide (fun (W : World) (hW : Below w.heap.size w W) => eqIntZ_any vI uI t.items W (P := P) (Q := Q) (hI.carry (fun b hb => hW.block b (hP b hb)) (fun _ h => h)) (kI.carry (fun b hb => hW.block b (hQ b hb)) (fun _ h => h)) (fun b hb => Nat.lt_of_lt_of_le (hP b hb) hW.size) (fun b hb => Nat.lt_of_lt_of_le (hQ b hb) hW.size))
  have HE2 := hide (fun (W : World) (hW : Below w.heap.size w W) => eqCrewDeadS_any vD uD t.dead W (P := P) (Q := Q) (hD.carry (fun b hb => hW.block b (hP b hb)) (fun _ h => h)) (kD.carry (fun b hb => hW.block b (hQ b hb)) (fun _ h => h)) (fun b hb => Nat.lt_of_lt_of_le (hP b hb) hW.size) (fun b hb => Nat.lt_of_lt_of_le (hQ b hb) hW.size))
  have HBX := hide hbx
  obtain ⟨a1, c1, rfl, -, -⟩ := hI.open
  obtain ⟨a2, c2, rfl, -, -⟩ := hD.open
  obtain ⟨a3, c3, rfl, -, -⟩ := kI.open
  obtain ⟨a4, c4, rfl, -, -⟩ := kD.open
  have hok : (t.ok != t.ok) = false := by simp
  clear hbx hP hQ hI hD kI kD
  go_enter Try.func28, Try.ntmps28
  go_wp2_with fail
  refine (unhide HE1 _ (unhide HBX _ _)).mono ?_
  rintro e w1 ⟨rfl, hb1⟩
  obtain ⟨q0, q1, hs1, hb01⟩ := sbox2 hb1
  have x2 := q0.cell (i := 2) (by omega); have y2 := q1.cell (i := 2) (by omega)
  simp only [row6] at x2 y2
  have Q0 := hide q0; have Q1 := hide q1; have HB1 := hide hb01
  clear hb1 q0 q1 hb01 hok
  go_wp2_with fail
  refine (unhide HE2 _ (unhide HB1)).mono ?_
  rintro e w2 ⟨rfl, hb2⟩
  have q0 := (unhide Q0).of_block (hb2.block _ (by omega)); have q1 := (unhide Q1).of_block (hb2.block _ (by omega))
  have x3 := q0.cell (i := 3) (by omega); have y3 := q1.cell (i := 3) (by omega); have x4 := q0.cell (i := 4) (by omega); have y4 := q1.cell (i := 4) (by omega); have x5 := q0.cell (i := 5) (by omega); have y5 := q1.cell (i := 5) (by omega)
  simp only [row6] at x3 y3 x4 y4 x5 y5
  have HB2 := hide ((unhide HB1).trans (hb2.mono (unhide HB1).size))
  clear hb2 q0 q1 x2 y2
  go_wp2_with fail
  go_ret
  exact ⟨rfl, unhide HB2⟩

set_option maxRecDepth 100000 in
set_option maxHeartbeats 1600000 in
theorem markCrewTold_own (t : Td) (vI vD : Value) (F0 F1 : List Nat) (k : Nat) (w : World) (hI : ZOwn w vI t.items F0) (hD : HOwn w vD t.dead F1) (hnd : (F0 ++ F1).Nodup) (hF : ∀ b, b ∈ F0 ++ F1 → b < w.heap.size) (hk : k + t.items.length + 2 * t.dead.length ≤ 1099511627776) :
    Calls Try.prog 31 #[.agg #[.bool t.ok, vI, vD, .int .i64 t.jobs, .int .i64 0, .int .i64 0], .int .i64 k] w fun e w' => e = .returned (.int .i64 (k + t.items.length + 2 * t.dead.length : Nat)) ∧ ZOwn w' vI (mZs k t.items.length) F0 ∧ HOwn w' vD (mHs (k + t.items.length) t.dead.length) F1 ∧ Exc (F0 ++ F1) w w' := by
  have hbx : ∀ o, Below w.heap.size w (w.alloc o) := fun o => (Below.refl _ _).alloc (Nat.le_refl _) o
  have HM1 := hide (fun o => markIntZ_own vI t.items F0 k (w.alloc o) (FlatOwn.carry hI (fun b hb => (hbx o).block b (hF b (by simp [hb])))) (by omega))
  obtain ⟨a1, c1, rfl, -, -⟩ := (FlatOwn.at hI)
  obtain ⟨a2, c2, hv2, -, -⟩ := (FlatOwn.at hD)
  rw [List.length_map] at hv2
  subst hv2
  simp only [List.length_map] at *
  have HD := hide hD; have HND := hide (List.nodup_append.1 hnd); have HF := hide hF; have HBX := hide hbx
  clear hbx hI hD hnd hF
  go_enter Try.func31, Try.ntmps31
  go_wp2_with fail
  refine (unhide HM1 _).mono ?_
  rintro e w1 ⟨rfl, hz1, hx1⟩
  have hdis : ∀ b, b ∈ F1 → b ∉ F0 := fun b hb hb0 => (unhide HND).2.2 b hb0 b hb rfl
  have hblk : ∀ b, b ∈ F1 → w1.heap[b]? = w.heap[b]? := fun b hb => by
    have hl := unhide HF b (by simp [hb])
    exact (hx1.block b (by simp; omega) (hdis b hb)).trans ((unhide HBX _).block b hl)
  have hbox : w1.heap[w.heap.size]? = (w.alloc (.cells #[.bool t.ok, .slice a1 t.items.length c1, .slice a2 t.dead.length c2, .int .i64 t.jobs, .int .i64 0, .int .i64 0] 47)).heap[w.heap.size]? := hx1.block _ (by simp) (fun hb => by have := unhide HF _ (show w.heap.size ∈ F0 ++ F1 by simp [hb]); omega)
  have x2 : w1.cell? ⟨w.heap.size, 2, none⟩ = some (.slice a2 t.dead.length c2) := by rw [World.cell?_of_block (a := ⟨w.heap.size, 2, none⟩) hbox]; go_simp
  have hD1 := FlatOwn.carry (unhide HD) hblk
  have HM2 := hide (markCrewDeadS_own (.slice a2 t.dead.length c2) t.dead F1 (k + t.items.length) w1 hD1 (by omega))
  have HZ1 := hide hz1; have HX1 := hide hx1; have HDIS := hide hdis
  clear hz1 hx1 hdis hblk hbox hD1 HM1
  go_wp2_with fail
  refine (unhide HM2).mono ?_
  rintro e w2 ⟨rfl, hz2, hx2⟩
  have HZ2 := hide hz2; have HX2 := hide hx2
  clear hz2 hx2 HM2
  go_wp2_with fail
  go_ret
  refine ⟨rfl, FlatOwn.carry (unhide HZ1) (fun b hb => (unhide HX2).block b ?_ (fun hb1 => unhide HDIS b hb1 hb)), unhide HZ2, ?_⟩
  · have := unhide HF b (by simp [hb]); have := (unhide HX1).size; simp at this; omega
  · refine Exc.trans (b := w1) ?_ ((unhide HX2).mono (fun b hb => by simp [hb]))
    have h1 := (unhide HX1).mono (G := F0 ++ F1) (fun b hb => by simp [hb])
    exact ⟨h1.os, h1.tape, h1.output, Nat.le_trans (unhide HBX _).size h1.size, fun b hb hn => (h1.block b (by simp; omega) hn).trans ((unhide HBX _).block b hb)⟩

set_option maxRecDepth 100000 in
set_option maxHeartbeats 1600000 in
theorem heldCrewTold_any (ok : Bool) (jobs : Int) (vI vD : Value) (n m k : Nat) (P : Nat → Prop) (w : World) (hP : ∀ b, P b → b < w.heap.size) (hI : ZAt P w vI (mZs k n)) (hD : HAt P w vD (mHs (k + n) m)) (hk : k + n + 2 * m ≤ 1099511627776) :
    Calls Try.prog 32 #[.agg #[.bool ok, vI, vD, .int .i64 jobs, .int .i64 0, .int .i64 0], .int .i64 k] w fun e w' => e = .returned (.int .i64 (k + n + 2 * m : Nat)) ∧ Below w.heap.size w w' := by
  have hbx : ∀ o, Below w.heap.size w (w.alloc o) := fun o => (Below.refl _ _).alloc (Nat.le_refl _) o
  have HH1 := hide (fun (W : World) (hW : Below w.heap.size w W) => heldIntZ_any vI n k W (P := P) (hI.carry (fun b hb => hW.block b (hP b hb)) (fun _ h => h)) (fun b hb => Nat.lt_of_lt_of_le (hP b hb) hW.size) (by omega))
  have HH2 := hide (fun (W : World) (hW : Below w.heap.size w W) => heldCrewDeadS_any vD m (k + n) W (P := P) (hD.carry (fun b hb => hW.block b (hP b hb)) (fun _ h => h)) (fun b hb => Nat.lt_of_lt_of_le (hP b hb) hW.size) (by omega))
  have HBX := hide hbx
  obtain ⟨a1, c1, rfl, -, -⟩ := hI.open
  obtain ⟨a2, c2, rfl, -, -⟩ := hD.open
  clear hbx hP hI hD
  generalize (mZs k n).length = l1 at *
  generalize (mHs (k + n) m).length = l2 at *
  obtain ⟨s1, hs1⟩ : ∃ s1, s1 = k + n := ⟨_, rfl⟩
  rw [← hs1] at HH1 HH2 hk ⊢
  obtain ⟨s2, hs2⟩ : ∃ s2, s2 = s1 + 2 * m := ⟨_, rfl⟩
  rw [← hs2] at HH2 hk ⊢
  clear hs1 hs2
  go_enter Try.func32, Try.ntmps32
  go_wp2_with fail
  refine (unhide HH1 _ (unhide HBX _)).mono ?_
  rintro e w1 ⟨rfl, hb1⟩
  obtain ⟨q0, hz1, hb01⟩ := sbox1 hb1
  have x2 := q0.cell (i := 2) (by omega)
  simp only [row6] at x2
  have HB1 := hide hb01
  clear hb1 q0 hb01
  go_wp2_with fail
  refine (unhide HH2 _ (unhide HB1)).mono ?_
  rintro e w2 ⟨rfl, hb2⟩
  have HB2 := hide ((unhide HB1).trans (hb2.mono (unhide HB1).size))
  clear hb2
  go_wp2_with fail
  go_ret
  exact ⟨rfl, unhide HB2⟩
end Go.Proofs.Ytchlbncncipecaa
