/- The walk of the law's own eqStringS: two slices of the same strings are the same. No conditions. -/
import Derived.Test.YtenpghndgdemnaaGreatDoorPart03
import Derived.Test.YtenpghndgdemnaaGreatDoorRows
import Derived.Test.YtenpghndgdemnaaGreatDoorPart01
import Derived.Deep.OwnRows
import Derived.Deep.RegionWith
import Derived.Test.YtenpghndgdemnaaGreatDoorPart02
namespace Go.Proofs.YtenpghndgdemnaaGreatDoor
open Go Go.RowKit

set_option maxHeartbeats 400000 in
theorem eqStringS_any (v u : Value) (ss : List ByteArray) (w : World) {P Q : Nat → Prop} (hv : StrsAt P w v ss) (hu : StrsAt Q w u ss) (hP : ∀ b, P b → b < w.heap.size) (hQ : ∀ b, Q b → b < w.heap.size) :
    Calls Tryz.prog 34 #[v, u] w fun e w' => e = .returned (.bool true) ∧ Below w.heap.size w w' := by
  obtain ⟨a, cap, rfl, hlen, hc⟩ := hv
  obtain ⟨a2, cap2, rfl, -, hc2⟩ := hu
  have HC := hide hc; have HC2 := hide hc2; have HP := hide hP; have HQ := hide hQ
  clear hc hc2 hP hQ
  have hne : ((ss.length : Int) != (ss.length : Int)) = false := by simp
  go_enter Tryz.func34, Tryz.ntmps34
  go_wp2_with fail
  clear hne
  go_loopw [5] (fun i wr => ∃ (k : Nat), k ≤ ss.length ∧ i = .int .i64 k ∧ Below w.heap.size w wr) (fun i _ => ss.length - (intOf i).toNat)
  case atStart => exact ⟨0, Nat.zero_le _, rfl, Below.refl _ _⟩
  case round =>
    obtain ⟨k, hk, rfl, hb⟩ := hrel
    by_cases hlt : k < ss.length
    · obtain ⟨b, o, rfl, hpb, hcell, -⟩ := unhide HC k hlt
      obtain ⟨b2, o2, rfl, hpb2, hcell2, -⟩ := unhide HC2 k hlt
      have e1 : wr.cell? ⟨b, o + k, none⟩ = some (.string ss[k]) := by rw [hb.cell (unhide HP b hpb)]; exact hcell
      have e2 : wr.cell? ⟨b2, o2 + k, none⟩ = some (.string ss[k]) := by rw [hb.cell (unhide HQ b2 hpb2)]; exact hcell2
      clear hcell hcell2 hpb hpb2
      go_wp2_with fail
      go_region
      go_wp2_with fail
      go_roundw
      case rel => exact ⟨k + 1, by omega, by go_num, hb.drew⟩
      case measure => simp [intOf]; omega
    · go_wp2_with fail
      go_ret
      exact ⟨rfl, hb⟩
end Go.Proofs.YtenpghndgdemnaaGreatDoor

/- The walks of eqKind, eqKindS: of two schemas that lie in memory as one and the same they answer true, and turn nothing that was there. No conditions. -/

namespace Go.Proofs.YtenpghndgdemnaaGreatDoor
open Go Go.RowKit

def EqKSaid (n : Nat) : Prop := ∀ (t : Kd), ksz t < n → ∀ (P Q : Nat → Prop) (c d : C3) (w : World), (∀ b, P b → b < w.heap.size) → (∀ b, Q b → b < w.heap.size) → KRep P w t c → KRep Q w t d →
    Calls Tryz.prog 14 #[.agg #[c.c0, c.c1, c.c2], .agg #[d.c0, d.c1, d.c2]] w fun e w' => e = .returned (.bool true) ∧ Below w.heap.size w w'

set_option maxHeartbeats 400000 in
theorem eqKindS_any (n : Nat) (IH : EqKSaid n) (t : Kd) (hn : ksz t ≤ n) (P Q : Nat → Prop) (a a2 : Option Addr) (cap cap2 : Nat) (w : World) (hP : ∀ b, P b → b < w.heap.size) (hQ : ∀ b, Q b → b < w.heap.size)
    (hlen : t.kids.length ≤ 9223372036854775807)
    (hc : ∀ i, (hi : i < t.kids.length) → ∃ b o c, a = some ⟨b, o, none⟩ ∧ P b ∧ C3.at w b (o + i * 3) c ∧ KRep P w t.kids[i] c)
    (hc2 : ∀ i, (hi : i < t.kids.length) → ∃ b o c, a2 = some ⟨b, o, none⟩ ∧ Q b ∧ C3.at w b (o + i * 3) c ∧ KRep Q w t.kids[i] c) :
    Calls Tryz.prog 35 #[.slice a t.kids.length cap, .slice a2 t.kids.length cap2] w fun e w' => e = .returned (.bool true) ∧ Below w.heap.size w w' := by
  generalize hks : t.kids = ks at *
  have HK := hide hks; clear hks
  have HC := hide hc; clear hc
  have HC2 := hide hc2; clear hc2
  have HP := hide hP; clear hP
  have HQ := hide hQ; clear hQ
  have HI := hide IH; clear IH
  go_enter Tryz.func35, Tryz.ntmps35
  go_wp2_with fail
  go_loopw [5] (fun i wr => ∃ (k : Nat), k ≤ ks.length ∧ i = .int .i64 k ∧ Below w.heap.size w wr) (fun i _ => ks.length - (intOf i).toNat)
  case atStart => exact ⟨0, Nat.zero_le _, rfl, Below.refl _ _⟩
  case round =>
    obtain ⟨k, hk, rfl, hb⟩ := hrel
    by_cases hlt : k < ks.length
    · obtain ⟨b, o, c, rfl, hpb, hcell, hrep⟩ := unhide HC k hlt
      obtain ⟨b2, o2, d, rfl, hpb2, hcell2, hrep2⟩ := unhide HC2 k hlt
      have hcell' := hcell.carry (hb.block b (unhide HP b hpb))
      have hcell2' := hcell2.carry (hb.block b2 (unhide HQ b2 hpb2))
      obtain ⟨c0, c1, c2⟩ := c
      obtain ⟨d0, d1, d2⟩ := d
      obtain ⟨e0, e1, e2⟩ := hcell'
      obtain ⟨g0, g1, g2⟩ := hcell2'
      simp only at e0 e1 e2 g0 g1 g2
      have hmem : ks[k] ∈ t.kids := by rw [unhide HK]; exact List.getElem_mem hlt
      have hsm : ksz ks[k] < n := by have := ksz_kid hmem; omega
      have hcall := unhide HI ks[k] hsm P Q ⟨c0, c1, c2⟩ ⟨d0, d1, d2⟩ wr.drew (fun b hb' => Nat.lt_of_lt_of_le (unhide HP b hb') hb.size) (fun b hb' => Nat.lt_of_lt_of_le (unhide HQ b hb') hb.size) (KRep.carry (w' := wr.drew) (fun b hb' => hb.drew.block b (unhide HP b hb')) (fun _ h => h) _ _ hrep) (KRep.carry (w' := wr.drew) (fun b hb' => hb.drew.block b (unhide HQ b hb')) (fun _ h => h) _ _ hrep2)
      have HCALL := hide hcall
      clear hrep hcell hpb hrep2 hcell2 hpb2 hmem hcall HC HC2
      go_wp2_with fail
      go_region_with (go_at_call 14; refine (unhide HCALL).mono ?_; rintro e w' ⟨rfl, hb'⟩)
      all_goals
        have hb2 := hb.drew.trans (hb'.mono hb.drew.size)
        go_wp2_with fail
        go_roundw
        case rel => exact ⟨k + 1, by omega, by go_num, hb2⟩
        case measure => simp [intOf]; omega
    · go_wp2_with fail
      go_ret
      exact ⟨rfl, hb⟩

set_option maxHeartbeats 400000 in
theorem eqKind_step (n : Nat) (IH : EqKSaid n) : EqKSaid (n + 1) := by
  intro t hn P Q c d w hP hQ hrep hrep2
  obtain ⟨c0, c1, c2⟩ := c
  obtain ⟨d0, d1, d2⟩ := d
  obtain ⟨e0, -, hns, a, cap, e2, hlen, hks⟩ := hrep.open
  obtain ⟨g0, -, hns2, a2, cap2, g2, -, hks2⟩ := hrep2.open
  simp only at e0 e2 hns g0 g2 hns2
  subst e0 e2 g0 g2
  have HP := hide hP; have HK := hide hks; have HN := hide hns; have HI := hide IH; have HQ := hide hQ; have HK2 := hide hks2; have HN2 := hide hns2
  clear hP hQ hks hns hks2 hns2 IH hrep hrep2
  have hbx : ∀ o o2, Below w.heap.size w ((w.alloc o).alloc o2) := fun o o2 => ((Below.refl _ _).alloc (Nat.le_refl _) o).alloc (by simp) o2
  have HBX := hide hbx; clear hbx
  go_enter Tryz.func14, Tryz.ntmps14
  go_wp2_with fail
  refine (eqStringS_any c1 d1 t.names _ (P := P) (Q := Q) ((unhide HN).carry (fun b hb => (unhide HBX _ _).block b (unhide HP b hb)) (fun _ h => h)) ((unhide HN2).carry (fun b hb => (unhide HBX _ _).block b (unhide HQ b hb)) (fun _ h => h)) (fun b hb => Nat.lt_of_lt_of_le (unhide HP b hb) (unhide HBX _ _).size) (fun b hb => Nat.lt_of_lt_of_le (unhide HQ b hb) (unhide HBX _ _).size)).mono ?_
  rintro e w1 ⟨rfl, hb1⟩
  obtain ⟨q0, q1, hsz1, hb01⟩ := kbox2 hb1
  have k0 := q0.cell (i := 2) (by omega)
  have k1 := q1.cell (i := 2) (by omega)
  simp only [row3] at k0 k1
  have HB1 := hide hb01
  clear hb1 q0 q1 hb01
  go_wp2_with fail
  refine (eqKindS_any n (unhide HI) t (by omega) P Q a a2 cap cap2 w1 (fun b hb => Nat.lt_of_lt_of_le (unhide HP b hb) (unhide HB1).size) (fun b hb => Nat.lt_of_lt_of_le (unhide HQ b hb) (unhide HB1).size) hlen (fun i hi => ?_) (fun i hi => ?_)).mono ?_
  · obtain ⟨b, o, c, h1, h2, h3, h4⟩ := unhide HK i hi
    exact ⟨b, o, c, h1, h2, h3.carry ((unhide HB1).block b (unhide HP b h2)), KRep.carry (fun b hb => (unhide HB1).block b (unhide HP b hb)) (fun _ h => h) _ _ h4⟩
  · obtain ⟨b, o, c, h1, h2, h3, h4⟩ := unhide HK2 i hi
    exact ⟨b, o, c, h1, h2, h3.carry ((unhide HB1).block b (unhide HQ b h2)), KRep.carry (fun b hb => (unhide HB1).block b (unhide HQ b hb)) (fun _ h => h) _ _ h4⟩
  rintro e w2 ⟨rfl, hb2⟩
  have hb3 := (unhide HB1).trans (hb2.mono (unhide HB1).size)
  go_wp2_with fail
  go_ret
  exact ⟨rfl, hb3⟩

theorem eqKind_all : ∀ n, EqKSaid n
  | 0 => fun t h => by omega
  | n + 1 => eqKind_step n (eqKind_all n)

theorem eqKind_any (t : Kd) (P Q : Nat → Prop) (c d : C3) (w : World) (hP : ∀ b, P b → b < w.heap.size) (hQ : ∀ b, Q b → b < w.heap.size) (h1 : KRep P w t c) (h2 : KRep Q w t d) :
    Calls Tryz.prog 14 #[.agg #[c.c0, c.c1, c.c2], .agg #[d.c0, d.c1, d.c2]] w fun e w' => e = .returned (.bool true) ∧ Below w.heap.size w w' :=
  eqKind_all (ksz t + 1) t (by omega) P Q c d w hP hQ h1 h2
end Go.Proofs.YtenpghndgdemnaaGreatDoor
