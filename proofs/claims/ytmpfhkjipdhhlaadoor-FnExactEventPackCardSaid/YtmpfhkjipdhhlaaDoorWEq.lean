/- The walks of eqStringS, eqTree, eqTreeS: of two trees that lie in memory as one and the same they answer true, and turn nothing that was there. No conditions. -/
import Derived.Test.YtmpfhkjipdhhlaaDoorWStr
namespace Go.Proofs.YtmpfhkjipdhhlaaDoor
open Go Go.RowKit

def EqSaid (n : Nat) : Prop := ∀ (t : Tr), tsz t < n → ∀ (P Q : Nat → Prop) (c d : C5) (w : World), (∀ b, P b → b < w.heap.size) → (∀ b, Q b → b < w.heap.size) → Rep P w t c → Rep Q w t d →
    Calls Tryd.prog 31 #[.agg #[c.c0, c.c1, c.c2, c.c3, c.c4], .agg #[d.c0, d.c1, d.c2, d.c3, d.c4]] w fun e w' => e = .returned (.bool true) ∧ Below w.heap.size w w'

set_option maxHeartbeats 400000 in
theorem eqTreeS_any (n : Nat) (IH : EqSaid n) (t : Tr) (hn : tsz t ≤ n) (P Q : Nat → Prop) (a a2 : Option Addr) (cap cap2 : Nat) (w : World) (hP : ∀ b, P b → b < w.heap.size) (hQ : ∀ b, Q b → b < w.heap.size)
    (hlen : t.kids.length ≤ 9223372036854775807)
    (hc : ∀ i, (hi : i < t.kids.length) → ∃ b o c, a = some ⟨b, o, none⟩ ∧ P b ∧ C5.at w b (o + i * 5) c ∧ Rep P w t.kids[i] c)
    (hc2 : ∀ i, (hi : i < t.kids.length) → ∃ b o c, a2 = some ⟨b, o, none⟩ ∧ Q b ∧ C5.at w b (o + i * 5) c ∧ Rep Q w t.kids[i] c) :
    Calls Tryd.prog 60 #[.slice a t.kids.length cap, .slice a2 t.kids.length cap2] w fun e w' => e = .returned (.bool true) ∧ Below w.heap.size w w' := by
  generalize hks : t.kids = ks at *
  have HK := hide hks; clear hks
  have HC := hide hc; clear hc
  have HC2 := hide hc2; clear hc2
  have HP := hide hP; clear hP
  have HQ := hide hQ; clear hQ
  have HI := hide IH; clear IH
  go_enter Tryd.func60, Tryd.ntmps60
  go_wp2_with fail
  go_loopw [5] (fun i wr => ∃ (k : Nat), k ≤ ks.length ∧ i = .int .i64 k ∧ Below w.heap.size w wr) (fun i _ => ks.length - (intOf i).toNat)
  case atStart => exact ⟨0, Nat.zero_le _, rfl, Below.refl _ _⟩
  case round =>
    obtain ⟨k, hk, rfl, hb⟩ := hrel
    by_cases hlt : k < ks.length
    · obtain ⟨b, o, c, rfl, hpb, hcell, hrep⟩ := unhide HC k hlt
      obtain ⟨b2, o2, d, rfl, hpb2, hcell2, hrep2⟩ := unhide HC2 k hlt
      have hcell' := hcell.carry (hb.block b (unhide HP b hpb))
      have hcell2' := hcell2.carry (hb.block b2 (unhide HQ b2 hpb2))
      obtain ⟨c0, c1, c2, c3, c4⟩ := c
      obtain ⟨d0, d1, d2, d3, d4⟩ := d
      obtain ⟨e0, e1, e2, e3, e4⟩ := hcell'
      obtain ⟨g0, g1, g2, g3, g4⟩ := hcell2'
      simp only at e0 e1 e2 e3 e4 g0 g1 g2 g3 g4
      have hmem : ks[k] ∈ t.kids := by rw [unhide HK]; exact List.getElem_mem hlt
      have hsm : tsz ks[k] < n := by have := tsz_kid hmem; omega
      have hcall := unhide HI ks[k] hsm P Q ⟨c0, c1, c2, c3, c4⟩ ⟨d0, d1, d2, d3, d4⟩ wr.drew (fun b hb' => Nat.lt_of_lt_of_le (unhide HP b hb') hb.size) (fun b hb' => Nat.lt_of_lt_of_le (unhide HQ b hb') hb.size) (Rep.carry (w' := wr.drew) (fun b hb' => hb.drew.block b (unhide HP b hb')) (fun _ h => h) _ _ hrep) (Rep.carry (w' := wr.drew) (fun b hb' => hb.drew.block b (unhide HQ b hb')) (fun _ h => h) _ _ hrep2)
      have HCALL := hide hcall
      clear hrep hcell hpb hrep2 hcell2 hpb2 hmem hcall HC HC2
      go_wp2_with fail
      go_region_with (go_at_call 31; refine (unhide HCALL).mono ?_; rintro e w' ⟨rfl, hb'⟩)
      all_goals
        have hb2 := hb.drew.trans (hb'.mono hb.drew.size)
        go_wp2_with fail
        go_roundw
        case rel => exact ⟨k + 1, by omega, by go_num, hb2⟩
        case measure => simp [intOf]; omega
    · go_wp2_with fail
      go_ret
      exact ⟨rfl, hb⟩

set_option maxHeartbeats 400000 in
theorem eqTree_step (n : Nat) (IH : EqSaid n) : EqSaid (n + 1) := by
  intro t hn P Q c d w hP hQ hrep hrep2
  obtain ⟨c0, c1, c2, c3, c4⟩ := c
  obtain ⟨d0, d1, d2, d3, d4⟩ := d
  obtain ⟨e0, e1, e2, -, -, -, hns, a, cap, e4, hlen, hks⟩ := hrep.open
  obtain ⟨g0, g1, g2, -, -, -, hns2, a2, cap2, g4, -, hks2⟩ := hrep2.open
  simp only at e0 e1 e2 e4 hns g0 g1 g2 g4 hns2
  subst e0 e1 e2 e4 g0 g1 g2 g4
  have HP := hide hP; have HK := hide hks; have HN := hide hns; have HI := hide IH; have HQ := hide hQ; have HK2 := hide hks2; have HN2 := hide hns2
  clear hP hQ hks hns hks2 hns2 IH hrep hrep2
  have hbx : ∀ o o2, Below w.heap.size w ((w.alloc o).alloc o2) := fun o o2 => ((Below.refl _ _).alloc (Nat.le_refl _) o).alloc (by simp) o2
  have HBX := hide hbx; clear hbx
  go_enter Tryd.func31, Tryd.ntmps31
  go_wp2_with fail
  refine (eqStringS_any c3 d3 t.names _ (P := P) (Q := Q) ((unhide HN).carry (fun b hb => (unhide HBX _ _).block b (unhide HP b hb)) (fun _ h => h)) ((unhide HN2).carry (fun b hb => (unhide HBX _ _).block b (unhide HQ b hb)) (fun _ h => h)) (fun b hb => Nat.lt_of_lt_of_le (unhide HP b hb) (unhide HBX _ _).size) (fun b hb => Nat.lt_of_lt_of_le (unhide HQ b hb) (unhide HBX _ _).size)).mono ?_
  rintro e w1 ⟨rfl, hb1⟩
  obtain ⟨q0, q1, hsz1, hb01⟩ := box2 hb1
  have k0 := q0.cell (i := 4) (by omega)
  have k1 := q1.cell (i := 4) (by omega)
  simp only [row5] at k0 k1
  have HB1 := hide hb01
  clear hb1 q0 q1 hb01
  go_wp2_with fail
  refine (eqTreeS_any n (unhide HI) t (by omega) P Q a a2 cap cap2 w1 (fun b hb => Nat.lt_of_lt_of_le (unhide HP b hb) (unhide HB1).size) (fun b hb => Nat.lt_of_lt_of_le (unhide HQ b hb) (unhide HB1).size) hlen (fun i hi => ?_) (fun i hi => ?_)).mono ?_
  · obtain ⟨b, o, c, h1, h2, h3, h4⟩ := unhide HK i hi
    exact ⟨b, o, c, h1, h2, h3.carry ((unhide HB1).block b (unhide HP b h2)), Rep.carry (fun b hb => (unhide HB1).block b (unhide HP b hb)) (fun _ h => h) _ _ h4⟩
  · obtain ⟨b, o, c, h1, h2, h3, h4⟩ := unhide HK2 i hi
    exact ⟨b, o, c, h1, h2, h3.carry ((unhide HB1).block b (unhide HQ b h2)), Rep.carry (fun b hb => (unhide HB1).block b (unhide HQ b hb)) (fun _ h => h) _ _ h4⟩
  rintro e w2 ⟨rfl, hb2⟩
  have hb3 := (unhide HB1).trans (hb2.mono (unhide HB1).size)
  go_wp2_with fail
  go_ret
  exact ⟨rfl, hb3⟩

theorem eqTree_all : ∀ n, EqSaid n
  | 0 => fun t h => by omega
  | n + 1 => eqTree_step n (eqTree_all n)

theorem eqTree_any (t : Tr) (P Q : Nat → Prop) (c d : C5) (w : World) (hP : ∀ b, P b → b < w.heap.size) (hQ : ∀ b, Q b → b < w.heap.size) (h1 : Rep P w t c) (h2 : Rep Q w t d) :
    Calls Tryd.prog 31 #[.agg #[c.c0, c.c1, c.c2, c.c3, c.c4], .agg #[d.c0, d.c1, d.c2, d.c3, d.c4]] w fun e w' => e = .returned (.bool true) ∧ Below w.heap.size w w' :=
  eqTree_all (tsz t + 1) t (by omega) P Q c d w hP hQ h1 h2
end Go.Proofs.YtmpfhkjipdhhlaaDoor
