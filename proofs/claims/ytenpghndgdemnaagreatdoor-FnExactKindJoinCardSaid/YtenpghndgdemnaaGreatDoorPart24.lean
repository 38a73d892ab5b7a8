/- What the law on KindJoin holds behind both calls, and how that is carried on. No conditions. -/
import Derived.Test.YtenpghndgdemnaaGreatDoorPart11
import Derived.Test.YtenpghndgdemnaaGreatDoorPart12
import Derived.Test.YtenpghndgdemnaaGreatDoorPart13
import Derived.Test.YtenpghndgdemnaaGreatDoorPart14
import Derived.Test.YtenpghndgdemnaaGreatDoorPart15
import Derived.Test.YtenpghndgdemnaaGreatDoorPart16
import Derived.Test.YtenpghndgdemnaaGreatDoorPart23
import Derived.Test.YtenpghndgdemnaaGreatDoorPart02
import Derived.Handy
namespace Go.Proofs.YtenpghndgdemnaaGreatDoor
open Go Go.RowKit

/-- The blocks that stay. -/
def KeepJ (w : World) (BW BX BY BG : Nat) (PW : Nat → Prop) (b : Nat) : Prop := b < w.heap.size + 2 ∨ b = BW ∨ b = BX ∨ b = BY ∨ b = BG ∨ PW b
structure CJn (w wr : World) (c d dX dY dW dG : C3) (T T' : Kd) (BW BX BY BG : Nat) (PW D : Nat → Prop) (FG : List Nat) : Prop where
  below : Below w.heap.size w wr
  bA : wr.rowIs w.heap.size 36 3 (row3 c.c0 c.c1 c.c2)
  bB : wr.rowIs (w.heap.size + 1) 36 3 (row3 d.c0 d.c1 d.c2)
  bW : wr.rowIs BW 26 3 (row3 dW.c0 dW.c1 dW.c2)
  bX : wr.rowIs BX 26 3 (row3 dX.c0 dX.c1 dX.c2)
  bY : wr.rowIs BY 26 3 (row3 dY.c0 dY.c1 dY.c2)
  bG : wr.rowIs BG 26 3 (row3 dG.c0 dG.c1 dG.c2)
  oW : KRep PW wr T dW
  oG : OwnD wr T' dG FG
  lW : ∀ b, PW b → b < wr.heap.size
  lG : ∀ b, b ∈ FG → b < wr.heap.size
  nd : FG.Nodup
  out : ∀ b, D b ∨ b ∈ FG → ¬ KeepJ w BW BX BY BG PW b
  apart : ∀ b, D b → b ∉ FG
theorem CJn.move {w wr : World} {c d dX dY dW dG : C3} {T T' : Kd} {BW BX BY BG : Nat} {PW D : Nat → Prop} {FG : List Nat} {w' : World} {T2 : Kd} (h : CJn w wr c d dX dY dW dG T T' BW BX BY BG PW D FG) (hs : wr.heap.size ≤ w'.heap.size) (ho : w'.os = wr.os) (ht : w'.tape = wr.tape) (hu : w'.output = wr.output) (hk : ∀ b, b < wr.heap.size → KeepJ w BW BX BY BG PW b → w'.heap[b]? = wr.heap[b]?) (hG : OwnD w' T2 dG FG) : CJn w w' c d dX dY dW dG T T2 BW BX BY BG PW D FG := by
  have hz := h.below.size
  refine ⟨h.below.trans ⟨ho, ht, hu, hs, fun b hb => hk b (by omega) (Or.inl (by omega))⟩, h.bA.of_block (hk _ h.bA.lt (Or.inl (by omega))), h.bB.of_block (hk _ h.bB.lt (Or.inl (by omega))), h.bW.of_block (hk _ h.bW.lt (Or.inr (Or.inl rfl))), h.bX.of_block (hk _ h.bX.lt (Or.inr (Or.inr (Or.inl rfl)))), h.bY.of_block (hk _ h.bY.lt (Or.inr (Or.inr (Or.inr (Or.inl rfl))))), h.bG.of_block (hk _ h.bG.lt (Or.inr (Or.inr (Or.inr (Or.inr (Or.inl rfl)))))),
    KRep.carry (fun b hb => hk b (h.lW b hb) (Or.inr (Or.inr (Or.inr (Or.inr (Or.inr hb)))))) (fun _ h => h) _ _ h.oW, hG, fun b hb => Nat.lt_of_lt_of_le (h.lW b hb) hs, fun b hb => Nat.lt_of_lt_of_le (h.lG b hb) hs, h.nd, h.out, h.apart⟩
theorem CJn.on {w wr : World} {c d dX dY dW dG : C3} {T T' : Kd} {BW BX BY BG : Nat} {PW D : Nat → Prop} {FG : List Nat} {w' : World} (h : CJn w wr c d dX dY dW dG T T' BW BX BY BG PW D FG) (hb : Below wr.heap.size wr w') : CJn w w' c d dX dY dW dG T T' BW BX BY BG PW D FG :=
  h.move hb.size hb.os hb.tape hb.output (fun b hl _ => hb.block b hl) (OwnD.carry _ _ _ (fun b hm => hb.block b (h.lG b hm)) h.oG)
theorem CJn.like {w wr : World} {c d dX dY dW dG : C3} {T T' : Kd} {BW BX BY BG : Nat} {PW D : Nat → Prop} {FG : List Nat} {w' : World} (h : CJn w wr c d dX dY dW dG T T' BW BX BY BG PW D FG) (hb : Like D wr w') : CJn w w' c d dX dY dW dG T T' BW BX BY BG PW D FG :=
  h.move hb.size hb.os hb.tape hb.output (fun b hl hk => hb.block b hl (fun hd => h.out b (Or.inl hd) hk)) (OwnD.carry _ _ _ (fun b hm => hb.block b (h.lG b hm) (fun hd => h.apart b hd hm)) h.oG)
theorem CJn.exc {w wr : World} {c d dX dY dW dG : C3} {T T' : Kd} {BW BX BY BG : Nat} {PW D : Nat → Prop} {FG : List Nat} {w' : World} {T2 : Kd} (h : CJn w wr c d dX dY dW dG T T' BW BX BY BG PW D FG) (hb : Exc FG wr w') (hG : OwnD w' T2 dG FG) : CJn w w' c d dX dY dW dG T T2 BW BX BY BG PW D FG :=
  h.move hb.size hb.os hb.tape hb.output (fun b hl hk => hb.block b hl (fun hd => h.out b (Or.inr hd) hk)) hG
theorem CJn.eq {w wr : World} {c d dX dY dW dG : C3} {T : Kd} {BW BX BY BG : Nat} {PW D : Nat → Prop} {FG : List Nat} (h : CJn w wr c d dX dY dW dG T T BW BX BY BG PW D FG) : Calls Tryz.prog 14 #[.agg #[dG.c0, dG.c1, dG.c2], .agg #[dW.c0, dW.c1, dW.c2]] wr fun e w' => e = .returned (.bool true) ∧ Below wr.heap.size wr w' :=
  eqKind_any T (· ∈ FG) PW dG dW wr h.lG h.lW (OwnD.rep T _ FG (fun _ h => h) h.oG) h.oW
theorem CJn.mark {w wr : World} {c d dX dY dW dG : C3} {T T' : Kd} {BW BX BY BG : Nat} {PW D : Nat → Prop} {FG : List Nat} (h : CJn w wr c d dX dY dW dG T T' BW BX BY BG PW D FG) (hk : 1 + T'.names.length + kcK T'.kids ≤ 1099511627776) :
    Calls Tryz.prog 15 #[.agg #[dG.c0, dG.c1, dG.c2], .int .i64 1] wr fun e w' => e = .returned (.int .i64 (1 + T'.names.length + kcK T'.kids : Nat)) ∧ CJn w w' c d dX dY dW dG T (.mk T'.sort (mS 1 T'.names) (mDs (1 + T'.names.length) T'.kids)) BW BX BY BG PW D FG :=
  (markKind_own T' dG FG 1 wr h.oG h.nd h.lG (by omega) hk).mono fun e w' ⟨h1, h2, h3⟩ => ⟨h1, h.exc h3 h2⟩
theorem CJn.held {w wr : World} {c d dX dY dW dG : C3} {T T' : Kd} {BW BX BY BG : Nat} {PW D : Nat → Prop} {FG : List Nat} {s : Int} (h : CJn w wr c d dX dY dW dG T (.mk s (mS 1 T'.names) (mDs (1 + T'.names.length) T'.kids)) BW BX BY BG PW D FG) (hk : 1 + T'.names.length + kcK T'.kids ≤ 1099511627776) :
    Calls Tryz.prog 16 #[.agg #[dG.c0, dG.c1, dG.c2], .int .i64 1] wr fun e w' => e = .returned (.int .i64 (1 + T'.names.length + kcK T'.kids : Nat)) ∧ CJn w w' c d dX dY dW dG T (.mk s (mS 1 T'.names) (mDs (1 + T'.names.length) T'.kids)) BW BX BY BG PW D FG :=
  (heldKind_any T' s (· ∈ FG) dG 1 wr h.lG (OwnD.rep _ _ FG (fun _ h => h) h.oG) (by omega) hk).mono fun e w' ⟨h1, h2⟩ => ⟨h1, h.on h2⟩
/-- The schema of an answer. -/
def jAn (o : Option Kd) : Kd := o.getD kd0
theorem jAn_light (a b : Kd) : wKd (jAn (joinD a b)) ≤ 1048576 := by
  unfold joinD
  by_cases h : 0 < qT a 1 ∧ 0 < qT b 1
  · rw [if_pos h]
    cases hj : jnP 80 a b with
    | none => simp [jAn, okO, kd0, wKd, wS, wKs]
    | some x =>
      have hl := jn_light h.1 h.2 hj
      unfold okO
      by_cases hx : 0 < qT x 1
      · simp only [if_pos hx]; show wKd x ≤ _; omega
      · simp only [if_neg hx]; simp [jAn, kd0, wKd, wS, wKs]
  · rw [if_neg h]; simp [jAn, kd0, wKd, wS, wKs]
theorem kd_sm {t : Kd} (h : wKd t ≤ 1048576) : 1 + t.names.length + kcK t.kids ≤ 1048578 := by
  have := kcT_le t; rw [kcT_eq] at this; omega
theorem newF_new {W w' : World} : ∀ b, NewF W w' b → New W w' b := fun _ h => h.1
end Go.Proofs.YtenpghndgdemnaaGreatDoor

/- The walks of szKind, szKindS: what they answer, and that they turn nothing that was there. No conditions. -/

namespace Go.Proofs.YtenpghndgdemnaaGreatDoor
open Go Go.RowKit

/-- What szKind says of schemas smaller than n. -/
def SzKSaid (n : Nat) : Prop := ∀ (t : Kd), ksz t < n → ∀ (P : Nat → Prop) (c : C3) (left : Int) (w : World), (∀ b, P b → b < w.heap.size) → KRep P w t c → 0 ≤ left → left ≤ 1048576 →
    Calls Tryz.prog 12 #[.agg #[c.c0, c.c1, c.c2], .int .i64 left] w fun e w' => ∃ r : Int, e = .returned (.int .i64 r) ∧ (r = -1 ∨ (0 ≤ r ∧ r + wKd t = left)) ∧ Below w.heap.size w w'

set_option maxHeartbeats 400000 in
theorem szKindS_any (n : Nat) (IH : SzKSaid n) (t : Kd) (hn : ksz t ≤ n) (P : Nat → Prop) (a : Option Addr) (cap : Nat) (left : Int) (w : World) (hP : ∀ b, P b → b < w.heap.size)
    (hlen : t.kids.length ≤ 9223372036854775807)
    (hc : ∀ i, (hi : i < t.kids.length) → ∃ b o c, a = some ⟨b, o, none⟩ ∧ P b ∧ C3.at w b (o + i * 3) c ∧ KRep P w t.kids[i] c) (h0 : 0 ≤ left) (h1 : left ≤ 1048576) :
    Calls Tryz.prog 31 #[.slice a t.kids.length cap, .int .i64 left] w fun e w' => ∃ r : Int, e = .returned (.int .i64 r) ∧ (r = -1 ∨ (0 ≤ r ∧ r + wKs t.kids = left)) ∧ Below w.heap.size w w' := by
  generalize hks : t.kids = ks at *
  have HK := hide hks; clear hks
  have HC := hide hc; clear hc
  have HP := hide hP; clear hP
  have HI := hide IH; clear IH
  by_cases hneg : left - ks.length < 0
  · go_enter Tryz.func31, Tryz.ntmps31
    go_wp2_with fail
    go_ret
    exact ⟨_, rfl, Or.inl rfl, Below.refl _ _⟩
  · go_enter Tryz.func31, Tryz.ntmps31
    go_wp2_with fail
    go_loopw [1, 5] (fun l i wr => ∃ (k : Nat) (q : Int), k ≤ ks.length ∧ i = .int .i64 k ∧ l = .int .i64 q ∧ 0 ≤ q ∧ q ≤ 1048576 ∧ Hid (q + ks.length + wKs (ks.take k) = left + k) ∧ Below w.heap.size w wr) (fun _ i _ => ks.length - (intOf i).toNat)
    case atStart => exact ⟨0, _, Nat.zero_le _, rfl, rfl, by omega, by omega, by simp [Hid, wKs], Below.refl _ _⟩
    case round =>
      obtain ⟨k, q, hk, rfl, rfl, hq0, hq1, HQ, hb⟩ := hrel
      by_cases hlt : k < ks.length
      · obtain ⟨b, o, c, rfl, hpb, hcell, hrep⟩ := unhide HC k hlt
        have hcell' := hcell.carry (hb.block b (unhide HP b hpb))
        obtain ⟨c0, c1, c2⟩ := c
        obtain ⟨e0, e1, e2⟩ := hcell'
        simp only at e0 e1 e2
        have HR := hide hrep; clear hrep hcell hpb
        have hmem : ks[k] ∈ t.kids := by rw [unhide HK]; exact List.getElem_mem hlt
        have hsm : ksz ks[k] < n := by have := ksz_kid hmem; omega
        have hts := wKs_take ks k hlt
        have HT := hide hts; clear hts hmem
        go_wp2_with fail
        refine (unhide HI ks[k] hsm P ⟨c0, c1, c2⟩ q wr (fun b hb' => Nat.lt_of_lt_of_le (unhide HP b hb') hb.size) (KRep.carry (fun b hb' => hb.block b (unhide HP b hb')) (fun _ h => h) _ _ (unhide HR)) hq0 hq1).mono ?_
        rintro e w' ⟨r, rfl, hr, hb'⟩
        have hb2 := hb.trans (hb'.mono hb.size)
        clear hb'
        rcases hr with rfl | ⟨hr0, hr1⟩
        · go_wp2_with fail
          go_ret
          exact ⟨_, rfl, Or.inl rfl, hb2⟩
        · have HR1 := hide hr1; clear hr1
          have hr2 : r ≤ 1048576 := by have := unhide HR1; omega
          go_wp2_with fail
          go_roundw
          case rel => exact ⟨k + 1, _, by omega, by go_num, rfl, by omega, by omega, by have := HQ.out; have := unhide HT; have := unhide HR1; show _ = _; omega, hb2⟩
          case measure => simp [intOf]; omega
      · go_wp2_with fail
        go_ret
        refine ⟨_, rfl, Or.inr ⟨hq0, ?_⟩, hb⟩
        have := HQ.out
        rw [List.take_of_length_le (by omega)] at this
        omega

set_option maxHeartbeats 400000 in
theorem szKind_step (n : Nat) (IH : SzKSaid n) : SzKSaid (n + 1) := by
  intro t hn P c left w hP hrep h0 h1
  obtain ⟨c0, c1, c2⟩ := c
  obtain ⟨e0, -, hns, a, cap, e4, hlen, hks⟩ := hrep.open
  simp only at e0 e4 hns
  subst e0 e4
  have hwt : wKd t = wS t.names + wKs t.kids := by obtain ⟨s, ns, ks⟩ := t; rfl
  have HW := hide hwt; have HP := hide hP; have HK := hide hks; have HN := hide hns; have HI := hide IH; have HR := hide hrep
  clear hwt hP hks hns IH hrep
  have hbx : ∀ o, Below w.heap.size w (w.alloc o) := fun o => (Below.refl _ _).alloc (Nat.le_refl _) o
  go_enter Tryz.func12, Tryz.ntmps12
  go_wp2_with fail
  refine (szStringS_any _ t.names _ _ ((unhide HN).carry (P := P) (Q := P) (fun b hb => (hbx _).block b (unhide HP b hb)) (fun _ h => h)) (by omega) (by omega)).mono ?_
  rintro e w' ⟨r, rfl, hr, rfl⟩
  rcases hr with rfl | ⟨hr0, hr1⟩
  · go_wp2_with fail
    go_ret
    exact ⟨_, rfl, Or.inl rfl, hbx _⟩
  · have HR1 := hide hr1; clear hr1
    have hr2 : r ≤ 1048576 := by have := unhide HR1; omega
    go_wp2_with fail
    refine (szKindS_any n (unhide HI) t (by omega) P a cap r _ (fun b hb => Nat.lt_of_lt_of_le (unhide HP b hb) (hbx _).size) hlen (fun i hi => ?_) hr0 hr2).mono ?_
    · obtain ⟨b, o, c, h1, h2, h3, h4⟩ := unhide HK i hi
      exact ⟨b, o, c, h1, h2, h3.carry ((hbx _).block b (unhide HP b h2)), KRep.carry (fun b hb => (hbx _).block b (unhide HP b hb)) (fun _ h => h) _ _ h4⟩
    rintro e w' ⟨r', rfl, hr', hb'⟩
    have hb2 := (hbx _).trans (hb'.mono (hbx _).size)
    rcases hr' with rfl | ⟨hr0', hr1'⟩
    · go_wp2_with fail
      go_ret
      exact ⟨_, rfl, Or.inl rfl, hb2⟩
    · have HR2 := hide hr1'; clear hr1'
      go_wp2_with fail
      go_ret
      exact ⟨_, rfl, Or.inr ⟨hr0', by have := unhide HR1; have := unhide HR2; have := unhide HW; omega⟩, hb2⟩

theorem szKind_all : ∀ n, SzKSaid n
  | 0 => fun t h => by omega
  | n + 1 => szKind_step n (szKind_all n)

theorem szKind_any (t : Kd) (P : Nat → Prop) (c : C3) (left : Int) (w : World) (hP : ∀ b, P b → b < w.heap.size) (hrep : KRep P w t c) (h0 : 0 ≤ left) (h1 : left ≤ 1048576) :
    Calls Tryz.prog 12 #[.agg #[c.c0, c.c1, c.c2], .int .i64 left] w fun e w' => ∃ r : Int, e = .returned (.int .i64 r) ∧ (r = -1 ∨ (0 ≤ r ∧ r + wKd t = left)) ∧ Below w.heap.size w w' :=
  szKind_all (ksz t + 1) t (by omega) P c left w hP hrep h0 h1
end Go.Proofs.YtenpghndgdemnaaGreatDoor

/- The walk of the law on KindJoin, the program's and the specification's KindJoin taken by their contracts (hypotheses): whatever two schemas come in, it answers true, and turns nothing that was there. -/

namespace Go.Proofs.YtenpghndgdemnaaGreatDoor
open Go Go.RowKit

/-- What the law's world holds: the boxes of its two arguments. -/
structure Ar2 (w W : World) (c d : C3) : Prop where
  below : Below w.heap.size w W
  size : w.heap.size + 2 ≤ W.heap.size
  bA : W.rowIs w.heap.size 36 3 (row3 c.c0 c.c1 c.c2)
  bB : W.rowIs (w.heap.size + 1) 36 3 (row3 d.c0 d.c1 d.c2)
theorem Ar2.on {w W W' : World} {c d : C3} (h : Ar2 w W c d) (hb : Below W.heap.size W W') : Ar2 w W' c d := by
  have := h.size
  exact ⟨h.below.trans (hb.mono h.below.size), Nat.le_trans h.size hb.size, h.bA.of_block (hb.block _ (by omega)), h.bB.of_block (hb.block _ (by omega))⟩
theorem Ar2.start (w : World) (c0 c1 c2 d0 d1 d2 : Value) : Ar2 w ((w.alloc (.cells #[c0, c1, c2] 36)).alloc (.cells #[d0, d1, d2] 36)) ⟨c0, c1, c2⟩ ⟨d0, d1, d2⟩ := by
  have h2 := row3_alloc (w.alloc (.cells #[c0, c1, c2] 36)) d0 d1 d2 36
  simp only [World.size_alloc] at h2
  exact ⟨((Below.refl _ _).alloc (Nat.le_refl _) _).alloc (by simp) _, by simp, (row3_alloc w c0 c1 c2 _).alloc _, h2⟩
set_option maxRecDepth 100000 in
set_option maxHeartbeats 6400000 in
theorem lawKindJoin_of (k m : Kd) (P : Nat → Prop) (c d : C3) (w : World) (hP : ∀ b, P b → b < w.heap.size) (hrep : KRep P w k c) (hrep2 : KRep P w m d)
    (himpl : ∀ (c d : C3) (W : World), Below w.heap.size w W → KRep (fun b => b < W.heap.size) W k c → KRep (fun b => b < W.heap.size) W m d → wKd k ≤ 1048576 → wKd m ≤ 1048576 →
      Calls Tryz.prog 7 #[.agg #[c.c0, c.c1, c.c2], .agg #[d.c0, d.c1, d.c2]] W (JdE (joinD k m) W))
    (hspec : ∀ (c d : C3) (W : World), KRep (fun b => b < W.heap.size) W k c → KRep (fun b => b < W.heap.size) W m d →
      Calls Tryz.prog 6 #[.agg #[c.c0, c.c1, c.c2], .agg #[d.c0, d.c1, d.c2]] W fun e w' => ∃ dW : C3, e = .returned (.tuple #[.agg #[dW.c0, dW.c1, dW.c2], .bool (joinD k m).isSome]) ∧ KRep (New W w') w' (jAn (joinD k m)) dW ∧ Below W.heap.size W w') :
    Calls Tryz.prog 4 #[.agg #[c.c0, c.c1, c.c2], .agg #[d.c0, d.c1, d.c2]] w fun e w' => e = .returned (.bool true) ∧ Below w.heap.size w w' := by
  have hka : ∀ W, Below w.heap.size w W → (∀ b, P b → b < W.heap.size) ∧ KRep P W k c ∧ KRep P W m d := fun W hW => ⟨fun b hb => Nat.lt_of_lt_of_le (hP b hb) hW.size, KRep.carry (fun b hb => hW.block b (hP b hb)) (fun _ h => h) _ _ hrep, KRep.carry (fun b hb => hW.block b (hP b hb)) (fun _ h => h) _ _ hrep2⟩
  have HZ := hide (fun W (hW : Below w.heap.size w W) (l : Int) (h0 : 0 ≤ l) (h1 : l ≤ 1048576) => szKind_any k P c l W (hka W hW).1 (hka W hW).2.1 h0 h1)
  have HZ2 := hide (fun W (hW : Below w.heap.size w W) (l : Int) (h0 : 0 ≤ l) (h1 : l ≤ 1048576) => szKind_any m P d l W (hka W hW).1 (hka W hW).2.2 h0 h1)
  have HTF := hide (fun W (hW : Below w.heap.size w W) (h : wKd k ≤ 1048576) => toKind_free k P c W (hka W hW).1 (hka W hW).2.1 h)
  have HTF2 := hide (fun W (hW : Below w.heap.size w W) (h : wKd m ≤ 1048576) => toKind_free m P d W (hka W hW).1 (hka W hW).2.2 h)
  have HIMPL := hide himpl; have HSPEC := hide hspec
  obtain ⟨c0, c1, c2⟩ := c
  obtain ⟨d0, d1, d2⟩ := d
  obtain ⟨e0, -, ⟨a1, cap1, e1, -, -⟩, a2, cap2, e2, -, -⟩ := hrep.open
  obtain ⟨g0, -, ⟨b1, bap1, g1, -, -⟩, b2, bap2, g2, -, -⟩ := hrep2.open
  simp only at e0 e1 e2 g0 g1 g2
  subst e0 e1 e2 g0 g1 g2
  have HAR := hide (Ar2.start w (.int .i64 k.sort) (.slice a1 k.names.length cap1) (.slice a2 k.kids.length cap2) (.int .i64 m.sort) (.slice b1 m.names.length bap1) (.slice b2 m.kids.length bap2))
  have HMKT := hide (kd_marks (jAn_light k m))
  clear hka hrep hrep2 hP himpl hspec
  go_enter Tryz.func4, Tryz.ntmps4
  go_wp2_with fail
  refine (unhide HZ _ (unhide HAR).below _ (by omega) (by omega)).mono ?_
  rintro e w1 ⟨r, rfl, hr, hb1⟩
  have har1 := (unhide HAR).on hb1
  clear hb1 HAR HZ
  rcases hr with rfl | ⟨hr0, hr1⟩
  · have HB := hide har1.below; clear har1
    go_wp2_with fail
    go_ret
    exact ⟨rfl, unhide HB⟩
  have hwt : wKd k ≤ 1048576 := by omega
  have hr2 : r ≤ 1048576 := by omega
  have j0 := har1.bB.cell (i := 0) (by omega); have j1 := har1.bB.cell (i := 1) (by omega); have j2 := har1.bB.cell (i := 2) (by omega)
  simp only [row3] at j0 j1 j2
  have HWT := hide hwt; have HAR1 := hide har1
  clear hwt har1 hr1
  go_wp2_with fail
  refine (unhide HZ2 _ (unhide HAR1).below _ hr0 hr2).mono ?_
  rintro e w3 ⟨r2, rfl, hrr, hb2⟩
  have har3 := (unhide HAR1).on hb2
  clear hb2 HAR1 j0 j1 j2 HZ2
  rcases hrr with rfl | ⟨hq0, hq1⟩
  · have HB := hide har3.below; clear har3
    go_wp2_with fail
    go_ret
    exact ⟨rfl, unhide HB⟩
  have hwt2 : wKd m ≤ 1048576 := by omega
  have HWT2 := hide hwt2; have HAR3 := hide har3
  clear hwt2 har3 hq1 hr0 hr2
  have HCK := hide (fun W (hW : Below w.heap.size w W) => unhide HTF W hW (unhide HWT))
  have HCM := hide (fun W (hW : Below w.heap.size w W) => unhide HTF2 W hW (unhide HWT2))
  clear HTF HTF2
  have HCK1 := hide (fun W (hW : Below w.heap.size w W) => (unhide HCK W hW).mono fun e w' ⟨c', h1, h2, h3⟩ => (⟨c', h1, KRep.carry (fun _ _ => rfl) newF_new _ _ h2, h3⟩ : ∃ c' : C3, e = Ending.returned (.agg #[c'.c0, c'.c1, c'.c2]) ∧ KRep (New W w') w' k c' ∧ Below W.heap.size W w'))
  have HCM1 := hide (fun W (hW : Below w.heap.size w W) => (unhide HCM W hW).mono fun e w' ⟨c', h1, h2, h3⟩ => (⟨c', h1, KRep.carry (fun _ _ => rfl) newF_new _ _ h2, h3⟩ : ∃ c' : C3, e = Ending.returned (.agg #[c'.c0, c'.c1, c'.c2]) ∧ KRep (New W w') w' m c' ∧ Below W.heap.size W w'))
  go_upto_region 8 with fail
  refine wp_swap (c' := Code.region 8 jl8Ops true) (by kernel_rfl) ?_
  refine wp_region_noPanic ?_
  have hto : ∀ W, Below w3.drew.heap.size w3.drew W → Below w.heap.size w W := fun W hW => (unhide HAR3).below.drew.trans (hW.mono (unhide HAR3).below.drew.size)
  refine jl8 k m (jAn (joinD k m)) (joinD k m).isSome w3 ⟨.int .i64 k.sort, .slice a1 k.names.length cap1, .slice a2 k.kids.length cap2⟩ ⟨.int .i64 m.sort, .slice b1 m.names.length bap1, .slice b2 m.kids.length bap2⟩ w.heap.size (w.heap.size + 1) (unhide HAR3).bA.drew (unhide HAR3).bB.drew (fun W hW => unhide HCK1 W (hto W hW)) (fun W hW => unhide HCM1 W (hto W hW)) (fun a b W hW ha hb => unhide HSPEC a b W ha hb) _ (fun _ _ _ _ _ h => h) (by kernel_rfl) ?_
  intro v dW g8 W4 hoW hrW hg8 hb4
  refine NoPanic.normal ?_
  simp only [frL_eq, frG, List.lookup, Nat.reduceBEq, Nat.reduceAdd, Option.getD_some, Option.getD_none]
  clear hto
  have hdr : w3.drew.heap.size = w3.heap.size := rfl
  rw [hdr] at hoW hg8 hb4
  have hb34 : Below w3.heap.size w3 W4 := ((Below.refl _ w3).drew).trans hb4
  have har4 := (unhide HAR3).on hb34
  have hs34 := hb34.size
  have hs3 := (unhide HAR3).size
  have hgl := hrW.lt
  generalize hO : joinD k m = o at *
  have HO := hide hO
  clear hO hdr hb4 hb34 HSPEC
  obtain ⟨PW, hPi, hPe⟩ : ∃ PW : Nat → Prop, (∀ b, (w3.heap.size ≤ b ∧ b < W4.heap.size ∧ b ≠ g8) → PW b) ∧ ∀ b, PW b → (w3.heap.size ≤ b ∧ b < W4.heap.size ∧ b ≠ g8) := ⟨_, fun _ h => h, fun _ h => h⟩
  have hoW := KRep.carry (Q := PW) (w' := W4) (fun _ _ => rfl) hPi _ _ hoW
  have j0 := har4.bA.cell (i := 0) (by omega); have j1 := har4.bA.cell (i := 1) (by omega); have j2 := har4.bA.cell (i := 2) (by omega)
  simp only [row3] at j0 j1 j2
  obtain ⟨e0, e1, e2⟩ := dW
  have HOW := hide hoW; have HRW := hide hrW; have HAR4 := hide har4; have HPE := hide hPe
  clear hoW hrW har4 hPi hPe HAR3
  go_wp2_with fail
  refine (unhide HCK _ (unhide HAR4).below).mono ?_
  rintro e w5 ⟨⟨x0, x1, x2⟩, rfl, hrx, hb5⟩
  clear j0 j1 j2
  have hs5 := hb5.size
  obtain ⟨q0, -, ⟨a3, cap3, q1, -, -⟩, a4, cap4, q2, -, -⟩ := hrx.open
  simp only at q0 q1 q2
  subst q0 q1 q2
  have har5 := fun o => ((unhide HAR4).on hb5).on ((Below.refl w5.heap.size w5).alloc (Nat.le_refl _) o)
  have j0 := fun o => (har5 o).bB.cell (i := 0) (by omega); have j1 := fun o => (har5 o).bB.cell (i := 1) (by omega); have j2 := fun o => (har5 o).bB.cell (i := 2) (by omega)
  simp only [row3] at j0 j1 j2
  have HRX := hide hrx; have HB5 := hide hb5; have HAR5 := hide (har5 (.cells #[.int .i64 k.sort, .slice a3 k.names.length cap3, .slice a4 k.kids.length cap4] 26))
  clear hrx hb5 har5
  go_wp2_with fail
  refine (unhide HCM _ (unhide HAR5).below).mono ?_
  rintro e w7 ⟨⟨x0, x1, x2⟩, rfl, hry, hb6⟩
  clear j0 j1 j2
  have hs6 : w5.heap.size + 1 ≤ w7.heap.size := by have := hb6.size; simpa using this
  obtain ⟨q0, -, ⟨b3, bap3, q1, -, -⟩, b4, bap4, q2, -, -⟩ := hry.open
  simp only at q0 q1 q2
  subst q0 q1 q2
  have har7 := ((unhide HAR5).on hb6).on ((Below.refl w7.heap.size w7).alloc (Nat.le_refl _) (.cells #[.int .i64 m.sort, .slice b3 m.names.length bap3, .slice b4 m.kids.length bap4] 26))
  have hal7 := (Below.refl w7.heap.size w7).alloc (Nat.le_refl _) (.cells #[.int .i64 m.sort, .slice b3 m.names.length bap3, .slice b4 m.kids.length bap4] 26)
  have hb57 : Below w5.heap.size w5 w7 := ((Below.refl w5.heap.size w5).alloc (Nat.le_refl _) _).trans (hb6.mono (by simp))
  have hry' : KRep (fun b => w5.heap.size < b ∧ b < w7.heap.size ∧ FreeB w7 b) w7 m ⟨.int .i64 m.sort, .slice b3 m.names.length bap3, .slice b4 m.kids.length bap4⟩ := KRep.carry (fun _ _ => rfl) (fun b hb => ⟨by have := hb.1.1; rw [World.size_alloc] at this; omega, hb.1.2, hb.2⟩) _ _ hry
  have pX := ((row3_alloc w5 (.int .i64 k.sort) (.slice a3 k.names.length cap3) (.slice a4 k.kids.length cap4) 26).of_block (hb6.block w5.heap.size (by simp))).alloc (.cells #[.int .i64 m.sort, .slice b3 m.names.length bap3, .slice b4 m.kids.length bap4] 26)
  have pY := row3_alloc w7 (.int .i64 m.sort) (.slice b3 m.names.length bap3) (.slice b4 m.kids.length bap4) 26
  have HIM := hide (unhide HIMPL _ _ _ har7.below
    (KRep.carry (w' := w7.alloc (.cells #[.int .i64 m.sort, .slice b3 m.names.length bap3, .slice b4 m.kids.length bap4] 26)) (fun b hb => (Below.heap_alloc w7 _ b (by have := hb.1.2; omega)).trans (hb57.block b hb.1.2)) (fun b hb => by have := hb.1.2; rw [World.size_alloc]; omega) _ _ (unhide HRX))
    (KRep.carry (w' := w7.alloc (.cells #[.int .i64 m.sort, .slice b3 m.names.length bap3, .slice b4 m.kids.length bap4] 26)) (fun b hb => Below.heap_alloc w7 _ b hb.2.1) (fun b hb => by have := hb.2.1; rw [World.size_alloc]; omega) _ _ hry') (unhide HWT) (unhide HWT2))
  have j0 := pX.cell (i := 0) (by omega); have j1 := pX.cell (i := 1) (by omega); have j2 := pX.cell (i := 2) (by omega)
  simp only [row3] at j0 j1 j2
  have HRY := hide hry'; have HB57 := hide hb57; have HAL7 := hide hal7; have HAR7 := hide har7; have PX7 := hide pX; have PY7 := hide pY
  clear hry hry' hb6 hb57 hal7 har7 pX pY HAR5
  go_wp2_with fail
  refine (unhide HIM).mono ?_
  rintro e w9 ⟨⟨x0, x1, x2⟩, FG, rfl, hoG, hnd, hlG, hb9⟩
  clear j0 j1 j2
  have hs9 : w7.heap.size + 1 ≤ w9.heap.size := by have := hb9.size; simpa using this
  have hoG : OwnD w9 (jAn o) ⟨x0, x1, x2⟩ FG := hoG
  generalize hT : jAn o = T at *
  have HT := hide hT
  clear hT
  obtain ⟨g3, gap3, g4, gap4, eG⟩ := ownD_form hoG
  simp only [C3.mk.injEq] at eG
  obtain ⟨rfl, rfl, rfl⟩ := eG
  have hb79 := (unhide HAL7).trans (hb9.mono (unhide HAL7).size)
  have hb59 := (unhide HB57).trans (hb79.mono (by omega))
  have hb49 := (unhide HB5).trans (hb59.mono (by omega))
  have har9 := (unhide HAR7).on hb9
  obtain ⟨D, hDi1, hDi2, hDe⟩ : ∃ D : Nat → Prop, (∀ b, NewF W4 w5 b → D b) ∧ (∀ b, (w5.heap.size < b ∧ b < w7.heap.size ∧ FreeB w7 b) → D b) ∧ ∀ b, D b → W4.heap.size ≤ b ∧ b < w7.heap.size ∧ b ≠ w5.heap.size ∧ FreeB w7 b :=
    ⟨fun b => W4.heap.size ≤ b ∧ b < w7.heap.size ∧ b ≠ w5.heap.size ∧ FreeB w7 b,
      fun b hb => ⟨hb.1.1, by have := hb.1.2; omega, by have := hb.1.2; omega, hb.2.of_block ((unhide HB57).block b hb.1.2)⟩,
      fun b hb => ⟨by omega, by omega, by omega, hb.2.2⟩, fun _ h => h⟩
  have hst : CJn w (w9.alloc (.cells #[.int .i64 T.sort, .slice g3 T.names.length gap3, .slice g4 T.kids.length gap4] 26)) ⟨.int .i64 k.sort, .slice a1 k.names.length cap1, .slice a2 k.kids.length cap2⟩ ⟨.int .i64 m.sort, .slice b1 m.names.length bap1, .slice b2 m.kids.length bap2⟩ ⟨.int .i64 k.sort, .slice a3 k.names.length cap3, .slice a4 k.kids.length cap4⟩ ⟨.int .i64 m.sort, .slice b3 m.names.length bap3, .slice b4 m.kids.length bap4⟩ ⟨e0, e1, e2⟩ ⟨.int .i64 T.sort, .slice g3 T.names.length gap3, .slice g4 T.kids.length gap4⟩ T T g8 w5.heap.size w7.heap.size w9.heap.size PW D FG := by
    have hal9 := (Below.refl w9.heap.size w9).alloc (Nat.le_refl _) (.cells #[.int .i64 T.sort, .slice g3 T.names.length gap3, .slice g4 T.kids.length gap4] 26)
    have har := har9.on hal9
    refine ⟨har.below, har.bA, har.bB, ((unhide HRW).of_block (hb49.block _ hgl)).alloc _, ((unhide PX7).of_block (hb9.block _ (unhide PX7).lt)).alloc _, ((unhide PY7).of_block (hb9.block _ (unhide PY7).lt)).alloc _, row3_alloc w9 _ _ _ _, ?_, ?_, ?_, ?_, hnd, ?_, ?_⟩
    · have := unhide HOW
      exact KRep.carry (fun b hb => (Below.heap_alloc w9 _ b (by have := unhide HPE b hb; omega)).trans (hb49.block b (by have := unhide HPE b hb; omega))) (fun _ h => h) _ _ this
    · exact OwnD.carry _ _ _ (fun b hb => Below.heap_alloc w9 _ b (hlG b hb).2) hoG
    · intro b hb
      have := unhide HPE b hb
      rw [World.size_alloc]; omega
    · intro b hb
      have := (hlG b hb).2
      rw [World.size_alloc]; omega
    · intro b hb hk
      have hr : W4.heap.size ≤ b ∧ b < w9.heap.size ∧ b ≠ w5.heap.size ∧ b ≠ w7.heap.size := by
        rcases hb with hb | hb
        · have := hDe b hb
          exact ⟨this.1, by omega, this.2.2.1, by omega⟩
        · have := hlG b hb
          rw [World.size_alloc] at this
          omega
      rcases hk with h | h | h | h | h | h
      · omega
      · omega
      · omega
      · omega
      · omega
      · have := unhide HPE b h; omega
    · intro b hb hm
      have := hDe b hb
      have h2 := hlG b hm
      rw [World.size_alloc] at h2
      omega
  have hk9 : ∀ (W : World), Below w9.heap.size w9 W → ∀ b, b < w7.heap.size → W.heap[b]? = w7.heap[b]? := fun W hW b hb => (hW.block b (by omega)).trans (hb79.block b hb)
  have HRX9 := hide (fun (W : World) (hW : Below w9.heap.size w9 W) => KRep.carry (w' := W) (Q := D) (fun b hb => (hk9 W hW b (by have := hb.1.2; omega)).trans ((unhide HB57).block b hb.1.2)) hDi1 _ _ (unhide HRX))
  have HRY9 := hide (fun (W : World) (hW : Below w9.heap.size w9 W) => KRep.carry (w' := W) (Q := D) (fun b hb => hk9 W hW b hb.2.1) hDi2 _ _ (unhide HRY))
  have HFX9 := hide (fun (W : World) (hW : Below w9.heap.size w9 W) b (hb : D b) => (hDe b hb).2.2.2.of_block (hk9 W hW b (hDe b hb).2.1))
  have HD9 := hide (show ∀ b, D b → b < w9.heap.size from fun b hb => by have := (hDe b hb).2.1; omega)
  have HBa := hide ((Below.refl w9.heap.size w9).alloc (Nat.le_refl _) (.cells #[.int .i64 T.sort, .slice g3 T.names.length gap3, .slice g4 T.kids.length gap4] 26))
  have HST := hide hst
  have j0 := hst.bW.cell (i := 0) (by omega); have j1 := hst.bW.cell (i := 1) (by omega); have j2 := hst.bW.cell (i := 2) (by omega)
  simp only [row3] at j0 j1 j2
  clear hst hoG hnd hlG hb9 hb79 hb59 hb49 har9 hk9 hDi1 hDi2 hDe HRX HRY HB5 HB57 HAL7 HAR7 PX7 PY7 HOW HRW HAR4 HPE HIM
  have i0 := (unhide HST).bG.cell (i := 0) (by omega); have i1 := (unhide HST).bG.cell (i := 1) (by omega); have i2 := (unhide HST).bG.cell (i := 2) (by omega)
  simp only [row3] at i0 i1 i2
  have hrr : ∀ r : Bool, (r != r) = false := fun r => by cases r <;> rfl
  go_wp2_with fail
  generalize w9.alloc (.cells #[.int .i64 T.sort, .slice g3 T.names.length gap3, .slice g4 T.kids.length gap4] 26) = wz at HST HBa i0 i1 i2 j0 j1 j2 ⊢
  refine (unhide HST).eq.mono ?_
  rintro e wa ⟨rfl, hba⟩
  have HWA := hide ((unhide HST).on hba)
  have HBWA := hide ((unhide HBa).trans (hba.mono (unhide HBa).size))
  clear hba HST HBa i0 i1 i2 j0 j1 j2
  generalize hr : o.isSome = r
  have HR := hide hr
  clear hr
  have hrr := hrr r
  go_upto_region 14 with fail
  refine wp_swap (c' := Code.region 14 jl14Ops true) (by kernel_rfl) ?_
  refine wp_region_noPanic ?_
  refine jl14 k ⟨.int .i64 k.sort, .slice a1 k.names.length cap1, .slice a2 k.kids.length cap2⟩ ⟨.int .i64 k.sort, .slice a3 k.names.length cap3, .slice a4 k.kids.length cap4⟩ D w.heap.size w5.heap.size wa ((unhide HWA).bA.of_block rfl) ((unhide HWA).bX.of_block rfl) (unhide HRX9 wa.drew (unhide HBWA).drew) (fun b hb => Nat.lt_of_lt_of_le (unhide HD9 b hb) (unhide HBWA).size) (fun W hW => unhide HCK1 W ((unhide HWA).below.drew.trans (hW.mono (unhide HWA).below.drew.size))) (.pointer (some ⟨w.heap.size + 1, 0, none⟩)) (.pointer (some ⟨g8, 0, none⟩)) (.bool r) (.pointer (some ⟨w7.heap.size, 0, none⟩)) (.pointer (some ⟨w9.heap.size, 0, none⟩)) (.bool r) _ (fun _ _ _ _ _ h => h) (by kernel_rfl) ?_
  intro v14 wb hbb
  refine NoPanic.normal ?_
  simp only [frL_eq, frG, List.lookup, Nat.reduceBEq, Nat.reduceAdd, Option.getD_some, Option.getD_none]
  have hb' : Below wa.heap.size wa wb := (Below.refl _ wa).drew.trans hbb
  have Hwb := hide ((unhide HWA).on hb')
  have HBwb := hide ((unhide HBWA).trans (hb'.mono (unhide HBWA).size))
  clear hbb hb' HWA HBWA
  go_upto_region 16 with fail
  refine wp_swap (c' := Code.region 16 jl16Ops true) (by kernel_rfl) ?_
  refine wp_region_noPanic ?_
  refine jl16 m ⟨.int .i64 m.sort, .slice b1 m.names.length bap1, .slice b2 m.kids.length bap2⟩ ⟨.int .i64 m.sort, .slice b3 m.names.length bap3, .slice b4 m.kids.length bap4⟩ D (w.heap.size + 1) w7.heap.size wb ((unhide Hwb).bB.of_block rfl) ((unhide Hwb).bY.of_block rfl) (unhide HRY9 wb.drew (unhide HBwb).drew) (fun b hb => Nat.lt_of_lt_of_le (unhide HD9 b hb) (unhide HBwb).size) (fun W hW => unhide HCM1 W ((unhide Hwb).below.drew.trans (hW.mono (unhide Hwb).below.drew.size))) (.pointer (some ⟨w.heap.size, 0, none⟩)) (.pointer (some ⟨g8, 0, none⟩)) (.bool r) (.pointer (some ⟨w5.heap.size, 0, none⟩)) (.pointer (some ⟨w9.heap.size, 0, none⟩)) (.bool r) _ (fun _ _ _ _ _ h => h) (by kernel_rfl) ?_
  intro v16 wd hbb
  refine NoPanic.normal ?_
  simp only [frL_eq, frG, List.lookup, Nat.reduceBEq, Nat.reduceAdd, Option.getD_some, Option.getD_none]
  have hb' : Below wb.heap.size wb wd := (Below.refl _ wb).drew.trans hbb
  have Hwd := hide ((unhide Hwb).on hb')
  have HBwd := hide ((unhide HBwb).trans (hb'.mono (unhide HBwb).size))
  clear hbb hb' Hwb HBwb
  have hFR := fun b (hb : D b) => unhide HFX9 wd (unhide HBwd) b hb
  have hsx : KShp D wd k ⟨.int .i64 k.sort, .slice a3 k.names.length cap3, .slice a4 k.kids.length cap4⟩ := KRep.shp (fun b hb => ⟨hb, hFR b hb⟩) k _ (unhide HRX9 wd (unhide HBwd))
  have hsy : KShp D wd m ⟨.int .i64 m.sort, .slice b3 m.names.length bap3, .slice b4 m.kids.length bap4⟩ := KRep.shp (fun b hb => ⟨hb, hFR b hb⟩) m _ (unhide HRY9 wd (unhide HBwd))
  have bm1 := kd_sm (unhide HWT); have bm2 := kd_sm (unhide HWT2)
  have hm1 := markKind_shp D k _ 1 wd hsx (by omega) (by omega)
  have k0 := (unhide Hwd).bX.cell (i := 0) (by omega); have k1 := (unhide Hwd).bX.cell (i := 1) (by omega); have k2 := (unhide Hwd).bX.cell (i := 2) (by omega)
  simp only [row3] at k0 k1 k2
  have HM1 := hide hm1; have HSY := hide hsy; have HM2 := hide bm2; have HM0 := hide bm1
  clear hFR hsx hsy hm1 bm1 bm2 HRX9 HRY9 HFX9 HBwd
  go_wp2_with fail
  refine (unhide HM1).mono ?_
  rintro e we ⟨rfl, hl1⟩
  have hwe := (unhide Hwd).like hl1
  have hsy := KShp.like hl1 m _ _ (alike.refl _) (alike.refl _) (alike.refl _) (unhide HSY)
  have hb1 := unhide HM0
  clear HM1 HM0 HSY k0 k1 k2 hl1 Hwd
  generalize hq1 : 1 + k.names.length + kcK k.kids = mk1 at *
  have h11 : 1 ≤ mk1 := by omega
  clear hq1
  have hm2 := markKind_shp D m _ mk1 we hsy (by omega) (by have := unhide HM2; omega)
  have k0 := hwe.bY.cell (i := 0) (by omega); have k1 := hwe.bY.cell (i := 1) (by omega); have k2 := hwe.bY.cell (i := 2) (by omega)
  simp only [row3] at k0 k1 k2
  have HMM2 := hide hm2; have HWE := hide hwe
  clear hm2 hsy hwe hb1 h11 HM2
  go_wp2_with fail
  refine (unhide HMM2).mono ?_
  rintro e wg ⟨rfl, hl2⟩
  have hwg := (unhide HWE).like hl2
  clear HMM2 k0 k1 k2 hl2 HWE
  generalize mk1 + m.names.length + kcK m.kids = mk3 at *
  have g0 := hwg.bG.cell (i := 0) (by omega); have g1 := hwg.bG.cell (i := 1) (by omega); have g2 := hwg.bG.cell (i := 2) (by omega)
  have v0 := hwg.bW.cell (i := 0) (by omega); have v1 := hwg.bW.cell (i := 1) (by omega); have v2 := hwg.bW.cell (i := 2) (by omega)
  simp only [row3] at g0 g1 g2 v0 v1 v2
  have HWG := hide hwg
  clear hwg
  go_wp2_with fail
  refine (unhide HWG).eq.mono ?_
  rintro e wh ⟨rfl, hbh⟩
  have hwh := (unhide HWG).on hbh
  clear hbh HWG g0 g1 g2 v0 v1 v2
  have g0 := hwh.bG.cell (i := 0) (by omega); have g1 := hwh.bG.cell (i := 1) (by omega); have g2 := hwh.bG.cell (i := 2) (by omega)
  simp only [row3] at g0 g1 g2
  have HMT := hide (hwh.mark (unhide HMKT))
  clear hwh
  go_wp2_with fail
  refine (unhide HMT).mono ?_
  rintro e wi ⟨rfl, hwi⟩
  clear HMT g0 g1 g2
  have g0 := hwi.bG.cell (i := 0) (by omega); have g1 := hwi.bG.cell (i := 1) (by omega); have g2 := hwi.bG.cell (i := 2) (by omega)
  simp only [row3] at g0 g1 g2
  have HHT := hide (hwi.held (unhide HMKT))
  clear hwi
  have hmt2 := unhide HMKT
  have HMM := hide hmt2
  generalize hmt : 1 + T.names.length + kcK T.kids = mt at *
  have HME := hide hmt
  clear hmt
  go_wp2_with fail
  refine (unhide HHT).mono ?_
  rintro e wj ⟨rfl, hwj⟩
  clear HHT g0 g1 g2
  have HWJ := hide hwj
  clear hwj
  go_upto_region 31 with fail
  refine wp_swap (c' := Code.region 31 jl31Ops true) (by kernel_rfl) ?_
  refine wp_region_noPanic ?_
  have hto : ∀ W, Below wj.drew.heap.size wj.drew W → Below w.heap.size w W := fun W hW => (unhide HWJ).below.drew.trans (hW.mono (unhide HWJ).below.drew.size)
  refine jl31 k m T r wj ⟨.int .i64 k.sort, .slice a1 k.names.length cap1, .slice a2 k.kids.length cap2⟩ ⟨.int .i64 m.sort, .slice b1 m.names.length bap1, .slice b2 m.kids.length bap2⟩ w.heap.size (w.heap.size + 1) ((unhide HWJ).bA.of_block rfl) ((unhide HWJ).bB.of_block rfl) (.pointer (some ⟨g8, 0, none⟩)) (.bool r) (.pointer (some ⟨w9.heap.size, 0, none⟩)) (.int .i64 (mt : Nat)) (fun W hW => unhide HCK1 W (hto W hW)) (fun W hW => unhide HCM1 W (hto W hW))
    (fun a b W hW ha hb => (unhide HIMPL a b W (hto W hW) ha hb (unhide HWT) (unhide HWT2)).mono fun e w' ⟨d, F, h1, h2, _, h4, h5⟩ => ⟨d, by rw [h1, unhide HR], by rw [← unhide HT]; exact OwnD.rep _ _ _ h4 h2, h5⟩) _ (fun _ _ _ _ _ h => h) (by kernel_rfl) ?_
  intro v31 dH gH wk hoH hrH hgH hbk
  refine NoPanic.normal ?_
  simp only [frL_eq, frG, List.lookup, Nat.reduceBEq, Nat.reduceAdd, Option.getD_some, Option.getD_none]
  clear hto
  have hb' : Below wj.heap.size wj wk := (Below.refl _ wj).drew.trans hbk
  have hwk := (unhide HWJ).on hb'
  have heq := eqKind_any T _ PW dH ⟨e0, e1, e2⟩ wk (fun b hb => hb.2.1) (fun b hb => hwk.lW b hb) hoH hwk.oW
  have g0 := hrH.cell (i := 0) (by omega); have g1 := hrH.cell (i := 1) (by omega); have g2 := hrH.cell (i := 2) (by omega)
  have v0 := hwk.bW.cell (i := 0) (by omega); have v1 := hwk.bW.cell (i := 1) (by omega); have v2 := hwk.bW.cell (i := 2) (by omega)
  simp only [row3] at g0 g1 g2 v0 v1 v2
  have HEQ := hide heq; have HWK := hide hwk
  clear heq hwk hoH hrH hgH hbk hb' HWJ HCK1 HCM1 HIMPL
  go_wp2_with fail
  refine (unhide HEQ).mono ?_
  rintro e wl ⟨rfl, hbl⟩
  have hwl := (unhide HWK).on hbl
  clear hbl HEQ HWK g0 g1 g2 v0 v1 v2
  have g0 := hwl.bG.cell (i := 0) (by omega); have g1 := hwl.bG.cell (i := 1) (by omega); have g2 := hwl.bG.cell (i := 2) (by omega)
  simp only [row3] at g0 g1 g2
  have hht := hwl.held (by rw [unhide HME]; exact unhide HMM)
  rw [unhide HME] at hht
  have HHT := hide hht
  clear hwl hht
  go_wp2_with fail
  refine (unhide HHT).mono ?_
  rintro e wm ⟨rfl, hwm⟩
  have HB := hide hwm.below
  clear hwm HHT g0 g1 g2
  go_wp2_with fail
  go_ret
  exact ⟨rfl, unhide HB⟩
end Go.Proofs.YtenpghndgdemnaaGreatDoor
