/- The walks of eqKind, eqKindS: of two schemas that lie in memory as one and the same they answer true, and turn nothing that was there. No conditions. -/
import Derived.Test.YtcpfelaffclalaaGreatDoorPart17
import Derived.Test.YtcpfelaffclalaaGreatDoorPart00
import Derived.Test.YtcpfelaffclalaaGreatDoorPart11
namespace Go.Proofs.YtcpfelaffclalaaGreatDoor
open Go Go.RowKit

def EqKSaid (n : Nat) : Prop := ∀ (t : Kd), ksz t < n → ∀ (P Q : Nat → Prop) (c d : C3) (w : World), (∀ b, P b → b < w.heap.size) → (∀ b, Q b → b < w.heap.size) → KRep P w t c → KRep Q w t d →
    Calls Tryz.prog 10 #[.agg #[c.c0, c.c1, c.c2], .agg #[d.c0, d.c1, d.c2]] w fun e w' => e = .returned (.bool true) ∧ Below w.heap.size w w'

set_option maxHeartbeats 400000 in
theorem eqKindS_any (n : Nat) (IH : EqKSaid n) (t : Kd) (hn : ksz t ≤ n) (P Q : Nat → Prop) (a a2 : Option Addr) (cap cap2 : Nat) (w : World) (hP : ∀ b, P b → b < w.heap.size) (hQ : ∀ b, Q b → b < w.heap.size)
    (hlen : t.kids.length ≤ 9223372036854775807)
    (hc : ∀ i, (hi : i < t.kids.length) → ∃ b o c, a = some ⟨b, o, none⟩ ∧ P b ∧ C3.at w b (o + i * 3) c ∧ KRep P w t.kids[i] c)
    (hc2 : ∀ i, (hi : i < t.kids.length) → ∃ b o c, a2 = some ⟨b, o, none⟩ ∧ Q b ∧ C3.at w b (o + i * 3) c ∧ KRep Q w t.kids[i] c) :
    Calls Tryz.prog 31 #[.slice a t.kids.length cap, .slice a2 t.kids.length cap2] w fun e w' => e = .returned (.bool true) ∧ Below w.heap.size w w' := by
  generalize hks : t.kids = ks at *
  have HK := hide hks; clear hks
  have HC := hide hc; clear hc
  have HC2 := hide hc2; clear hc2
  have HP := hide hP; clear hP
  have HQ := hide hQ; clear hQ
  have HI := hide IH; clear IH
  go_enter Tryz.func31, Tryz.ntmps31
  go_wp2_with fail
  go_loopw [5] (fun i wr => ∃ (k : Nat), k ≤ ks.length ∧ i = .int .i64 k ∧ Below w.heap.size w wr) (fun i _ => ks.length - (intOf i).toNat)
  case atStart => exact ⟨0, Nat.zero_le _, rfl, Below.refl _ _⟩
  case round =>
    obtain ⟨k, hk, rfl, hb⟩ := hrel
    by_cases hlt : k < ks.length
    · obtain ⟨b, o, c, rfl, hpb, hcell, hrep⟩ := unhide HC k hlt
      obtain ⟨b2, o2, d, rfl, hpb2, hcell2, hrep2⟩ := unhide HC2 k hlt
      have hcell' := hcell.carry (hb.block b (unhide HP b hpb))
      have hcell2' := hcell2.carry (hb.block b2 (unhide HQ b2 hpb2))
      obtain ⟨c0, c1, c2⟩ := c
      obtain ⟨d0, d1, d2⟩ := d
      obtain ⟨e0, e1, e2⟩ := hcell'
      obtain ⟨g0, g1, g2⟩ := hcell2'
      simp only at e0 e1 e2 g0 g1 g2
      have hmem : ks[k] ∈ t.kids := by rw [unhide HK]; exact List.getElem_mem hlt
      have hsm : ksz ks[k] < n := by have := ksz_kid hmem; omega
      have hcall := unhide HI ks[k] hsm P Q ⟨c0, c1, c2⟩ ⟨d0, d1, d2⟩ wr.drew (fun b hb' => Nat.lt_of_lt_of_le (unhide HP b hb') hb.size) (fun b hb' => Nat.lt_of_lt_of_le (unhide HQ b hb') hb.size) (KRep.carry (w' := wr.drew) (fun b hb' => hb.drew.block b (unhide HP b hb')) (fun _ h => h) _ _ hrep) (KRep.carry (w' := wr.drew) (fun b hb' => hb.drew.block b (unhide HQ b hb')) (fun _ h => h) _ _ hrep2)
      have HCALL := hide hcall
      clear hrep hcell hpb hrep2 hcell2 hpb2 hmem hcall HC HC2
      go_wp2_with fail
      go_region_with (go_at_call 10; refine (unhide HCALL).mono ?_; rintro e w' ⟨rfl, hb'⟩)
      all_goals
        have hb2 := hb.drew.trans (hb'.mono hb.drew.size)
        go_wp2_with fail
        go_roundw
        case rel => exact ⟨k + 1, by omega, by go_num, hb2⟩
        case measure => simp [intOf]; omega
    · go_wp2_with fail
      go_ret
      exact ⟨rfl, hb⟩

set_option maxHeartbeats 400000 in
theorem eqKind_step (n : Nat) (IH : EqKSaid n) : EqKSaid (n + 1) := by
  intro t hn P Q c d w hP hQ hrep hrep2
  obtain ⟨c0, c1, c2⟩ := c
  obtain ⟨d0, d1, d2⟩ := d
  obtain ⟨e0, -, hns, a, cap, e2, hlen, hks⟩ := hrep.open
  obtain ⟨g0, -, hns2, a2, cap2, g2, -, hks2⟩ := hrep2.open
  simp only at e0 e2 hns g0 g2 hns2
  subst e0 e2 g0 g2
  have HP := hide hP; have HK := hide hks; have HN := hide hns; have HI := hide IH; have HQ := hide hQ; have HK2 := hide hks2; have HN2 := hide hns2
  clear hP hQ hks hns hks2 hns2 IH hrep hrep2
  have hbx : ∀ o o2, Below w.heap.size w ((w.alloc o).alloc o2) := fun o o2 => ((Below.refl _ _).alloc (Nat.le_refl _) o).alloc (by simp) o2
  have HBX := hide hbx; clear hbx
  go_enter Tryz.func10, Tryz.ntmps10
  go_wp2_with fail
  refine (eqStringS_any c1 d1 t.names _ (P := P) (Q := Q) ((unhide HN).carry (fun b hb => (unhide HBX _ _).block b (unhide HP b hb)) (fun _ h => h)) ((unhide HN2).carry (fun b hb => (unhide HBX _ _).block b (unhide HQ b hb)) (fun _ h => h)) (fun b hb => Nat.lt_of_lt_of_le (unhide HP b hb) (unhide HBX _ _).size) (fun b hb => Nat.lt_of_lt_of_le (unhide HQ b hb) (unhide HBX _ _).size)).mono ?_
  rintro e w1 ⟨rfl, hb1⟩
  obtain ⟨q0, q1, hsz1, hb01⟩ := kbox2 hb1
  have k0 := q0.cell (i := 2) (by omega)
  have k1 := q1.cell (i := 2) (by omega)
  simp only [row3] at k0 k1
  have HB1 := hide hb01
  clear hb1 q0 q1 hb01
  go_wp2_with fail
  refine (eqKindS_any n (unhide HI) t (by omega) P Q a a2 cap cap2 w1 (fun b hb => Nat.lt_of_lt_of_le (unhide HP b hb) (unhide HB1).size) (fun b hb => Nat.lt_of_lt_of_le (unhide HQ b hb) (unhide HB1).size) hlen (fun i hi => ?_) (fun i hi => ?_)).mono ?_
  · obtain ⟨b, o, c, h1, h2, h3, h4⟩ := unhide HK i hi
    exact ⟨b, o, c, h1, h2, h3.carry ((unhide HB1).block b (unhide HP b h2)), KRep.carry (fun b hb => (unhide HB1).block b (unhide HP b hb)) (fun _ h => h) _ _ h4⟩
  · obtain ⟨b, o, c, h1, h2, h3, h4⟩ := unhide HK2 i hi
    exact ⟨b, o, c, h1, h2, h3.carry ((unhide HB1).block b (unhide HQ b h2)), KRep.carry (fun b hb => (unhide HB1).block b (unhide HQ b hb)) (fun _ h => h) _ _ h4⟩
  rintro e w2 ⟨rfl, hb2⟩
  have hb3 := (unhide HB1).trans (hb2.mono (unhide HB1).size)
  go_wp2_with fail
  go_ret
  exact ⟨rfl, hb3⟩

theorem eqKind_all : ∀ n, EqKSaid n
  | 0 => fun t h => by omega
  | n + 1 => eqKind_step n (eqKind_all n)

theorem eqKind_any (t : Kd) (P Q : Nat → Prop) (c d : C3) (w : World) (hP : ∀ b, P b → b < w.heap.size) (hQ : ∀ b, Q b → b < w.heap.size) (h1 : KRep P w t c) (h2 : KRep Q w t d) :
    Calls Tryz.prog 10 #[.agg #[c.c0, c.c1, c.c2], .agg #[d.c0, d.c1, d.c2]] w fun e w' => e = .returned (.bool true) ∧ Below w.heap.size w w' :=
  eqKind_all (ksz t + 1) t (by omega) P Q c d w hP hQ h1 h2
end Go.Proofs.YtcpfelaffclalaaGreatDoor

/- The walks of eqStringS, eqTree, eqTreeS: of two trees that lie in memory as one and the same they answer true, and turn nothing that was there. No conditions. -/

namespace Go.Proofs.YtcpfelaffclalaaGreatDoor
open Go Go.RowKit

def EqSaid (n : Nat) : Prop := ∀ (t : Tr), tsz t < n → ∀ (P Q : Nat → Prop) (c d : C5) (w : World), (∀ b, P b → b < w.heap.size) → (∀ b, Q b → b < w.heap.size) → Rep P w t c → Rep Q w t d →
    Calls Tryz.prog 15 #[.agg #[c.c0, c.c1, c.c2, c.c3, c.c4], .agg #[d.c0, d.c1, d.c2, d.c3, d.c4]] w fun e w' => e = .returned (.bool true) ∧ Below w.heap.size w w'

set_option maxHeartbeats 400000 in
theorem eqTreeS_any (n : Nat) (IH : EqSaid n) (t : Tr) (hn : tsz t ≤ n) (P Q : Nat → Prop) (a a2 : Option Addr) (cap cap2 : Nat) (w : World) (hP : ∀ b, P b → b < w.heap.size) (hQ : ∀ b, Q b → b < w.heap.size)
    (hlen : t.kids.length ≤ 9223372036854775807)
    (hc : ∀ i, (hi : i < t.kids.length) → ∃ b o c, a = some ⟨b, o, none⟩ ∧ P b ∧ C5.at w b (o + i * 5) c ∧ Rep P w t.kids[i] c)
    (hc2 : ∀ i, (hi : i < t.kids.length) → ∃ b o c, a2 = some ⟨b, o, none⟩ ∧ Q b ∧ C5.at w b (o + i * 5) c ∧ Rep Q w t.kids[i] c) :
    Calls Tryz.prog 39 #[.slice a t.kids.length cap, .slice a2 t.kids.length cap2] w fun e w' => e = .returned (.bool true) ∧ Below w.heap.size w w' := by
  generalize hks : t.kids = ks at *
  have HK := hide hks; clear hks
  have HC := hide hc; clear hc
  have HC2 := hide hc2; clear hc2
  have HP := hide hP; clear hP
  have HQ := hide hQ; clear hQ
  have HI := hide IH; clear IH
  go_enter Tryz.func39, Tryz.ntmps39
  go_wp2_with fail
  go_loopw [5] (fun i wr => ∃ (k : Nat), k ≤ ks.length ∧ i = .int .i64 k ∧ Below w.heap.size w wr) (fun i _ => ks.length - (intOf i).toNat)
  case atStart => exact ⟨0, Nat.zero_le _, rfl, Below.refl _ _⟩
  case round =>
    obtain ⟨k, hk, rfl, hb⟩ := hrel
    by_cases hlt : k < ks.length
    · obtain ⟨b, o, c, rfl, hpb, hcell, hrep⟩ := unhide HC k hlt
      obtain ⟨b2, o2, d, rfl, hpb2, hcell2, hrep2⟩ := unhide HC2 k hlt
      have hcell' := hcell.carry (hb.block b (unhide HP b hpb))
      have hcell2' := hcell2.carry (hb.block b2 (unhide HQ b2 hpb2))
      obtain ⟨c0, c1, c2, c3, c4⟩ := c
      obtain ⟨d0, d1, d2, d3, d4⟩ := d
      obtain ⟨e0, e1, e2, e3, e4⟩ := hcell'
      obtain ⟨g0, g1, g2, g3, g4⟩ := hcell2'
      simp only at e0 e1 e2 e3 e4 g0 g1 g2 g3 g4
      have hmem : ks[k] ∈ t.kids := by rw [unhide HK]; exact List.getElem_mem hlt
      have hsm : tsz ks[k] < n := by have := tsz_kid hmem; omega
      have hcall := unhide HI ks[k] hsm P Q ⟨c0, c1, c2, c3, c4⟩ ⟨d0, d1, d2, d3, d4⟩ wr.drew (fun b hb' => Nat.lt_of_lt_of_le (unhide HP b hb') hb.size) (fun b hb' => Nat.lt_of_lt_of_le (unhide HQ b hb') hb.size) (Rep.carry (w' := wr.drew) (fun b hb' => hb.drew.block b (unhide HP b hb')) (fun _ h => h) _ _ hrep) (Rep.carry (w' := wr.drew) (fun b hb' => hb.drew.block b (unhide HQ b hb')) (fun _ h => h) _ _ hrep2)
      have HCALL := hide hcall
      clear hrep hcell hpb hrep2 hcell2 hpb2 hmem hcall HC HC2
      go_wp2_with fail
      go_region_with (go_at_call 15; refine (unhide HCALL).mono ?_; rintro e w' ⟨rfl, hb'⟩)
      all_goals
        have hb2 := hb.drew.trans (hb'.mono hb.drew.size)
        go_wp2_with fail
        go_roundw
        case rel => exact ⟨k + 1, by omega, by go_num, hb2⟩
        case measure => simp [intOf]; omega
    · go_wp2_with fail
      go_ret
      exact ⟨rfl, hb⟩

set_option maxHeartbeats 400000 in
theorem eqTree_step (n : Nat) (IH : EqSaid n) : EqSaid (n + 1) := by
  intro t hn P Q c d w hP hQ hrep hrep2
  obtain ⟨c0, c1, c2, c3, c4⟩ := c
  obtain ⟨d0, d1, d2, d3, d4⟩ := d
  obtain ⟨e0, e1, e2, -, -, -, hns, a, cap, e4, hlen, hks⟩ := hrep.open
  obtain ⟨g0, g1, g2, -, -, -, hns2, a2, cap2, g4, -, hks2⟩ := hrep2.open
  simp only at e0 e1 e2 e4 hns g0 g1 g2 g4 hns2
  subst e0 e1 e2 e4 g0 g1 g2 g4
  have HP := hide hP; have HK := hide hks; have HN := hide hns; have HI := hide IH; have HQ := hide hQ; have HK2 := hide hks2; have HN2 := hide hns2
  clear hP hQ hks hns hks2 hns2 IH hrep hrep2
  have hbx : ∀ o o2, Below w.heap.size w ((w.alloc o).alloc o2) := fun o o2 => ((Below.refl _ _).alloc (Nat.le_refl _) o).alloc (by simp) o2
  have HBX := hide hbx; clear hbx
  go_enter Tryz.func15, Tryz.ntmps15
  go_wp2_with fail
  refine (eqStringS_any c3 d3 t.names _ (P := P) (Q := Q) ((unhide HN).carry (fun b hb => (unhide HBX _ _).block b (unhide HP b hb)) (fun _ h => h)) ((unhide HN2).carry (fun b hb => (unhide HBX _ _).block b (unhide HQ b hb)) (fun _ h => h)) (fun b hb => Nat.lt_of_lt_of_le (unhide HP b hb) (unhide HBX _ _).size) (fun b hb => Nat.lt_of_lt_of_le (unhide HQ b hb) (unhide HBX _ _).size)).mono ?_
  rintro e w1 ⟨rfl, hb1⟩
  obtain ⟨q0, q1, hsz1, hb01⟩ := box2 hb1
  have k0 := q0.cell (i := 4) (by omega)
  have k1 := q1.cell (i := 4) (by omega)
  simp only [row5] at k0 k1
  have HB1 := hide hb01
  clear hb1 q0 q1 hb01
  go_wp2_with fail
  refine (eqTreeS_any n (unhide HI) t (by omega) P Q a a2 cap cap2 w1 (fun b hb => Nat.lt_of_lt_of_le (unhide HP b hb) (unhide HB1).size) (fun b hb => Nat.lt_of_lt_of_le (unhide HQ b hb) (unhide HB1).size) hlen (fun i hi => ?_) (fun i hi => ?_)).mono ?_
  · obtain ⟨b, o, c, h1, h2, h3, h4⟩ := unhide HK i hi
    exact ⟨b, o, c, h1, h2, h3.carry ((unhide HB1).block b (unhide HP b h2)), Rep.carry (fun b hb => (unhide HB1).block b (unhide HP b hb)) (fun _ h => h) _ _ h4⟩
  · obtain ⟨b, o, c, h1, h2, h3, h4⟩ := unhide HK2 i hi
    exact ⟨b, o, c, h1, h2, h3.carry ((unhide HB1).block b (unhide HQ b h2)), Rep.carry (fun b hb => (unhide HB1).block b (unhide HQ b hb)) (fun _ h => h) _ _ h4⟩
  rintro e w2 ⟨rfl, hb2⟩
  have hb3 := (unhide HB1).trans (hb2.mono (unhide HB1).size)
  go_wp2_with fail
  go_ret
  exact ⟨rfl, hb3⟩

theorem eqTree_all : ∀ n, EqSaid n
  | 0 => fun t h => by omega
  | n + 1 => eqTree_step n (eqTree_all n)

theorem eqTree_any (t : Tr) (P Q : Nat → Prop) (c d : C5) (w : World) (hP : ∀ b, P b → b < w.heap.size) (hQ : ∀ b, Q b → b < w.heap.size) (h1 : Rep P w t c) (h2 : Rep Q w t d) :
    Calls Tryz.prog 15 #[.agg #[c.c0, c.c1, c.c2, c.c3, c.c4], .agg #[d.c0, d.c1, d.c2, d.c3, d.c4]] w fun e w' => e = .returned (.bool true) ∧ Below w.heap.size w w' :=
  eqTree_all (tsz t + 1) t (by omega) P Q c d w hP hQ h1 h2
end Go.Proofs.YtcpfelaffclalaaGreatDoor

/- The closure of intoMaybe: one kid, widened. Conditions: the widening that it asks for is taken by its contract (a hypothesis). -/

namespace Go.Proofs.YtcpfelaffclalaaGreatDoor
open Go Go.RowKit

theorem Own.forms {w : World} {t : Tr} {d : C5} {F : List Nat} (h : Own w t d F) : ∃ (a3 : Option Addr) (p3 : Nat) (a4 : Option Addr) (p4 : Nat), d = ⟨.int .i64 t.sort, .int .i64 t.num, .string t.text, .slice a3 t.names.length p3, .slice a4 t.kids.length p4⟩ := by
  obtain ⟨c0, c1, c2, c3, c4⟩ := d
  obtain ⟨h0, h1, h2, -, -, -, F1, F2, -, ⟨a3, p3, h3, -⟩, a4, p4, h4, -⟩ := h.open
  simp only at h0 h1 h2 h3 h4
  exact ⟨a3, p3, a4, p4, by rw [h0, h1, h2, h3, h4]⟩
/-- A tree with one kid, whose row was just laid. -/
theorem own_one {W : World} {s : Int} {t : Tr} {d : C5} {F : List Nat} {b : Nat} (hs : I64 s) (hown : Own W t d F) (hrow : W.rowIs b 39 5 (row5 d.c0 d.c1 d.c2 d.c3 d.c4)) : Own W (.mk s 0 ByteArray.empty [] [t]) ⟨.int .i64 s, .int .i64 0, .string ByteArray.empty, .slice none 0 0, .slice (some ⟨b, 0, none⟩) 1 1⟩ (b :: F) := by
  rw [Own]
  refine ⟨rfl, rfl, rfl, hs, ⟨by decide, by decide⟩, by decide, [], b :: F, rfl, ⟨none, 0, rfl, by simp, Or.inl ⟨rfl, rfl⟩⟩, some ⟨b, 0, none⟩, 1, rfl, by simp, Or.inr ⟨b, F, rfl, rfl, hrow.frozen, ?_⟩⟩
  rw [OwnK]
  refine ⟨F, [], d, by simp, ⟨hrow.cell (i := 0) (by omega), hrow.cell (i := 1) (by omega), hrow.cell (i := 2) (by omega), hrow.cell (i := 3) (by omega), hrow.cell (i := 4) (by omega)⟩, hown, by rw [OwnK]⟩
theorem wd_end {w W0 W1 : World} {t' : Tr} {a3 a4 : Option Addr} {p3 p4 : Nat} {F : List Nat} {C : Nat} {f : Nat → Value} (hr : W1.rowIs C 39 5 f) (hown : Own W1 t' ⟨.int .i64 t'.sort, .int .i64 t'.num, .string t'.text, .slice a3 t'.names.length p3, .slice a4 t'.kids.length p4⟩ F) (hnd : F.Nodup) (hF : ∀ b, b ∈ F → W0.heap.size ≤ b ∧ b < W1.heap.size) (hb : Below w.heap.size w W1) (hC : w.heap.size ≤ C) (hC0 : C < W0.heap.size ∧ w.heap.size ≤ W0.heap.size) :
    ((W1.setCells C 0 [.int .i64 6, .int .i64 0, .string ⟨#[]⟩, .slice none 0 0, .slice (some ⟨W1.heap.size, 0, none⟩) 1 1]).alloc (.cells #[.int .i64 t'.sort, .int .i64 t'.num, .string t'.text, .slice a3 t'.names.length p3, .slice a4 t'.kids.length p4] 39)).rowIs C 39 5 (row5 (.int .i64 6) (.int .i64 0) (.string ⟨#[]⟩) (.slice none 0 0) (.slice (some ⟨W1.heap.size, 0, none⟩) 1 1)) ∧ TE (.mk 6 0 ByteArray.empty [] [t']) w (.returned (.agg #[.int .i64 6, .int .i64 0, .string ⟨#[]⟩, .slice none 0 0, .slice (some ⟨W1.heap.size, 0, none⟩) 1 1])) ((W1.setCells C 0 [.int .i64 6, .int .i64 0, .string ⟨#[]⟩, .slice none 0 0, .slice (some ⟨W1.heap.size, 0, none⟩) 1 1]).alloc (.cells #[.int .i64 t'.sort, .int .i64 t'.num, .string t'.text, .slice a3 t'.names.length p3, .slice a4 t'.kids.length p4] 39)) := by
  obtain ⟨k1, k2⟩ := set5_row hr (.int .i64 6) (.int .i64 0) (.string ⟨#[]⟩) (.slice none 0 0) (.slice (some ⟨W1.heap.size, 0, none⟩) 1 1)
  have hs5 : (W1.setCells C 0 [.int .i64 6, .int .i64 0, .string ⟨#[]⟩, .slice none 0 0, .slice (some ⟨W1.heap.size, 0, none⟩) 1 1]).heap.size = W1.heap.size := by simp [World.setCells, World.setCell]
  generalize W1.setCells C 0 [.int .i64 6, .int .i64 0, .string ⟨#[]⟩, .slice none 0 0, .slice (some ⟨W1.heap.size, 0, none⟩) 1 1] = W5 at k1 k2 hs5 ⊢
  have hrow := row5_alloc W5 (.int .i64 t'.sort) (.int .i64 t'.num) (.string t'.text) (.slice a3 t'.names.length p3) (.slice a4 t'.kids.length p4) 39
  rw [hs5] at hrow
  have hown6 : Own (W5.alloc (.cells #[.int .i64 t'.sort, .int .i64 t'.num, .string t'.text, .slice a3 t'.names.length p3, .slice a4 t'.kids.length p4] 39)) t' ⟨.int .i64 t'.sort, .int .i64 t'.num, .string t'.text, .slice a3 t'.names.length p3, .slice a4 t'.kids.length p4⟩ F := Own.carry _ _ _ (fun b hb' => by
    have h1 := hF b hb'
    rw [Below.heap_alloc _ _ _ (by rw [hs5]; exact h1.2)]
    exact k1.block b h1.2 (by omega)) hown
  refine ⟨k2.alloc _, ⟨_, _, _, _, _⟩, W1.heap.size :: F, rfl, own_one (s := 6) ⟨by decide, by decide⟩ hown6 hrow, List.nodup_cons.2 ⟨fun hm => by have := (hF _ hm).2; omega, hnd⟩, fun b hb' => ?_, ?_⟩
  · rw [World.size_alloc, hs5]
    rcases List.mem_cons.1 hb' with rfl | hm
    · exact ⟨hb.size, by omega⟩
    · have := hF b hm
      exact ⟨by omega, by omega⟩
  · exact (hb.trans (below_but k1 ⟨hC, hb.size⟩)).alloc (by rw [hs5]; exact hb.size) _
set_option maxRecDepth 100000 in
set_option maxHeartbeats 3200000 in
theorem into1_any (t t' : Tr) (c : C5) (w : World) (B f : Nat) (caps : Array Value) (hr : Rep (fun x => x < w.heap.size) w t c) (hB : w.cell? ⟨B, 0, none⟩ = some (.func (.func f) #[] caps)) (hent : ∀ args w, (callFunc f args).run Tryz.prog w = .ok (.enter f args) w)
    (hcall : ∀ W', Below w.heap.size w W' → Calls Tryz.prog f (#[.agg #[c.c0, c.c1, c.c2, c.c3, c.c4]] ++ caps) W' (TE t' W')) :
    Calls Tryz.prog 86 #[.agg #[c.c0, c.c1, c.c2, c.c3, c.c4], .pointer (some ⟨B, 0, none⟩)] w (TE (.mk 6 0 ByteArray.empty [] [t']) w) := by
  obtain ⟨c0, c1, c2, c3, c4⟩ := c
  obtain ⟨g0, g1, g2, -, -, -, ⟨a5, cap5, g3, -, -⟩, a6, cap6, g4, -, -⟩ := hr.open
  simp only at g0 g1 g2 g3 g4
  subst g0 g1 g2 g3 g4
  clear hr
  obtain ⟨hr1, hr2, hbw, hsz⟩ := wd_boxes w t.sort t.num t.text a5 a6 t.names.length cap5 t.kids.length cap6
  have hBl := World.block_lt_of_cell? w _ hB
  rw [← hbw.cell hBl] at hB
  have HR2 := hide hr2; have HBW := hide hbw; have HSZ := hide hsz; have HC := hide hcall
  have k0 := hr1.cell (i := 0) (by omega); have k1 := hr1.cell (i := 1) (by omega); have k2 := hr1.cell (i := 2) (by omega); have k3 := hr1.cell (i := 3) (by omega); have k4 := hr1.cell (i := 4) (by omega)
  simp only [row5] at k0 k1 k2 k3 k4
  clear hr1 hr2 hbw hsz hcall hBl
  go_enter Tryz.func86, Tryz.ntmps86
  go_upto_region 1 with fail
  generalize ((w.alloc (.cells #[.int .i64 t.sort, .int .i64 t.num, .string t.text, .slice a5 t.names.length cap5, .slice a6 t.kids.length cap6] 39)).alloc (.cells #[.int .i64 0, .int .i64 0, .string ⟨#[]⟩, .slice none 0 0, .slice none 0 0] 39)) = W0 at hB k0 k1 k2 k3 k4 HR2 HBW HSZ ⊢
  go_wp2_with fail
  refine (unhide HC W0 (unhide HBW)).mono ?_
  rintro e W1 ⟨d, F, rfl, hown, hnd, hF, hb1⟩
  obtain ⟨a3, p3, a4, p4, rfl⟩ := hown.forms
  have hr21 := (unhide HR2).of_block (hb1.block _ (unhide HR2).lt)
  have hs1 := hb1.size
  have hbw1 := (unhide HBW).trans (hb1.mono (unhide HBW).size)
  have HOWN := hide hown; have HND := hide hnd; have HF := hide hF; have HB1 := hide hbw1; have HR21 := hide hr21; have HS1 := hide hs1
  have m0 := hr21.cell (i := 0) (by omega); have m1 := hr21.cell (i := 1) (by omega); have m2 := hr21.cell (i := 2) (by omega); have m3 := hr21.cell (i := 3) (by omega); have m4 := hr21.cell (i := 4) (by omega); have mf := hr21.frozen
  simp only [row5] at m0 m1 m2 m3 m4
  have hlt : w.heap.size + 1 < W1.heap.size := hr21.lt
  clear hown hnd hF hb1 hr21 hs1 hbw1 k0 k1 k2 k3 k4 hB HC HR2
  go_wp2_with fail
  have HE := wd_end (unhide HR21) (unhide HOWN) (unhide HND) (unhide HF) (unhide HB1) (Nat.le_succ _) (by have := unhide HSZ; have := (unhide HBW).size; omega)
  have e5 : ((((W1.setCell ⟨w.heap.size + 1, 0, none⟩ (.int .i64 6)).setCell ⟨w.heap.size + 1, 1, none⟩ (.int .i64 0)).setCell ⟨w.heap.size + 1, 2, none⟩ (.string ⟨#[]⟩)).setCell ⟨w.heap.size + 1, 3, none⟩ (.slice none 0 0)).setCell ⟨w.heap.size + 1, 4, none⟩ (.slice (some ⟨W1.heap.size, 0, none⟩) 1 1) = W1.setCells (w.heap.size + 1) 0 [.int .i64 6, .int .i64 0, .string ⟨#[]⟩, .slice none 0 0, .slice (some ⟨W1.heap.size, 0, none⟩) 1 1] := rfl
  rw [e5]
  generalize (W1.setCells (w.heap.size + 1) 0 [.int .i64 6, .int .i64 0, .string ⟨#[]⟩, .slice none 0 0, .slice (some ⟨W1.heap.size, 0, none⟩) 1 1]).alloc (.cells #[.int .i64 t'.sort, .int .i64 t'.num, .string t'.text, .slice a3 t'.names.length p3, .slice a4 t'.kids.length p4] 39) = W6 at HE ⊢
  obtain ⟨hrow, hT⟩ := HE
  have q0 := hrow.cell (i := 0) (by omega); have q1 := hrow.cell (i := 1) (by omega); have q2 := hrow.cell (i := 2) (by omega); have q3 := hrow.cell (i := 3) (by omega); have q4 := hrow.cell (i := 4) (by omega)
  simp only [row5] at q0 q1 q2 q3 q4
  exact bodyPost_ret (v := .agg #[.int .i64 6, .int .i64 0, .string ⟨#[]⟩, .slice none 0 0, .slice (some ⟨W1.heap.size, 0, none⟩) 1 1]) (by simp [results, Tryz.results86, go_sem, q0, q1, q2, q3, q4]) rfl hT
end Go.Proofs.YtcpfelaffclalaaGreatDoor

/- The closure of eachKid: each kid, widened. Conditions: the widening that it asks for is taken by its contract (a hypothesis). -/

namespace Go.Proofs.YtcpfelaffclalaaGreatDoor
open Go Go.RowKit

theorem Rep.form {P : Nat → Prop} {w : World} {t : Tr} {c : C5} (h : Rep P w t c) : ∃ (a3 : Option Addr) (p3 : Nat) (a4 : Option Addr) (p4 : Nat), c = ⟨.int .i64 t.sort, .int .i64 t.num, .string t.text, .slice a3 t.names.length p3, .slice a4 t.kids.length p4⟩ := by
  obtain ⟨c0, c1, c2, c3, c4⟩ := c
  obtain ⟨g0, g1, g2, -, -, -, ⟨a5, cap5, g3, -, -⟩, a6, cap6, g4, -, -⟩ := h.open
  simp only at g0 g1 g2 g3 g4
  exact ⟨a5, cap5, a6, cap6, by rw [g0, g1, g2, g3, g4]⟩
set_option maxRecDepth 100000 in
set_option maxHeartbeats 3200000 in
theorem each1_any (t : Tr) (g : Tr → Tr) (c : C5) (w : World) (B f : Nat) (caps : Array Value) (hr : Rep (fun x => x < w.heap.size) w t c) (hB : w.cell? ⟨B, 0, none⟩ = some (.func (.func f) #[] caps)) (hent : ∀ args w, (callFunc f args).run Tryz.prog w = .ok (.enter f args) w) (hlen : t.kids.length ≤ 1000)
    (hcall : ∀ i, (hi : i < t.kids.length) → ∀ W' (d : C5), Below w.heap.size w W' → Rep (fun x => x < W'.heap.size) W' t.kids[i] d → Calls Tryz.prog f (#[.agg #[d.c0, d.c1, d.c2, d.c3, d.c4]] ++ caps) W' (TE (g t.kids[i]) W')) :
    Calls Tryz.prog 113 #[.agg #[c.c0, c.c1, c.c2, c.c3, c.c4], .pointer (some ⟨B, 0, none⟩)] w (TE (.mk t.sort 0 ByteArray.empty [] (t.kids.map g)) w) := by
  have hrep := hr
  obtain ⟨a5, cap5, a6, cap6, rfl⟩ := hr.form
  obtain ⟨-, -, -, hI0, -, -, -, a6', cap6', e4, -, hks⟩ := hr.open
  simp only [Value.slice.injEq, true_and] at e4
  obtain ⟨rfl, rfl⟩ := e4
  obtain ⟨i0, hi, hz0, hz1, hz2⟩ := info_parts infoTreeS
  have hBl := World.block_lt_of_cell? w _ hB
  have HK := hide hks; have HC := hide hcall; have HI0 := hide hI0; have HLEN := hide hlen; have HBC := hide hB; have HBL := hide hBl
  have HII := hide hi; have HZ0 := hide hz0; have HZ1 := hide hz1; have HZ2 := hide hz2
  clear hks hcall hI0 hlen hi hz0 hz1 hz2 hr hrep hB hBl
  go_enter Tryz.func113, Tryz.ntmps113
  go_wp2_with fail
  obtain ⟨W0, hW0⟩ : ∃ W0, (((w.alloc (.cells #[.int .i64 t.sort, .int .i64 t.num, .string t.text, .slice a5 t.names.length cap5, .slice a6 t.kids.length cap6] 39)).alloc (.cells #[.int .i64 0, .int .i64 0, .string ⟨#[]⟩, .slice none 0 0, .slice none 0 0] 39)).alloc (.cells #[.int .i64 t.sort, .int .i64 0, .string ⟨#[]⟩, .slice none 0 0, .slice none 0 0] 39)) = W0 := ⟨_, rfl⟩
  have hs0 : W0.heap.size = w.heap.size + 3 := by rw [← hW0]; simp
  have hbl : Below w.heap.size w W0 := by rw [← hW0]; exact (((Below.refl _ _).alloc (Nat.le_refl _) _).alloc (by simp) _).alloc (by simp; omega) _
  have hr1 : W0.rowIs (w.heap.size + 1) 39 5 (row5 (.int .i64 0) (.int .i64 0) (.string ⟨#[]⟩) (.slice none 0 0) (.slice none 0 0)) := by
    rw [← hW0]
    have q := row5_alloc (w.alloc (.cells #[.int .i64 t.sort, .int .i64 t.num, .string t.text, .slice a5 t.names.length cap5, .slice a6 t.kids.length cap6] 39)) (.int .i64 0) (.int .i64 0) (.string ⟨#[]⟩) (.slice none 0 0) (.slice none 0 0) 39
    rw [World.size_alloc] at q
    exact q.alloc _
  have hr2 : W0.rowIs (w.heap.size + 2) 39 5 (row5 (.int .i64 t.sort) (.int .i64 0) (.string ⟨#[]⟩) (.slice none 0 0) (.slice none 0 0)) := by
    rw [← hW0]
    have q := row5_alloc ((w.alloc (.cells #[.int .i64 t.sort, .int .i64 t.num, .string t.text, .slice a5 t.names.length cap5, .slice a6 t.kids.length cap6] 39)).alloc (.cells #[.int .i64 0, .int .i64 0, .string ⟨#[]⟩, .slice none 0 0, .slice none 0 0] 39)) (.int .i64 t.sort) (.int .i64 0) (.string ⟨#[]⟩) (.slice none 0 0) (.slice none 0 0) 39
    rw [World.size_alloc, World.size_alloc] at q
    exact q
  rw [hW0]
  have HBW := hide hbl; have HR1 := hide hr1
  have hinv : SInv (w.heap.size + 3) (w.heap.size + 2) W0 t.sort (.slice none 0 0) (.slice none 0 0) [] [] [] [] :=
    ⟨by omega, hr2, World.ownsRow_nil _ _ _ _, GotO.start _ _, fun b hb => by simp [Value.ownBlock] at hb, by omega⟩
  have HINV := hide hinv
  clear hW0 hbl hr1 hr2 hinv
  go_loopw [13] (fun i wr => ∃ (k : Nat) (aK : Option Addr) (capK : Nat) (xs : List Value) (G : List Nat), k ≤ t.kids.length ∧ i = .int .i64 k ∧ Hid (SInv (w.heap.size + 3) (w.heap.size + 2) wr t.sort (.slice none 0 0) (.slice aK k capK) [] ((t.kids.take k).map g) xs G) ∧ Hid (Below (w.heap.size + 2) W0 wr)) (fun i _ => t.kids.length - (intOf i).toNat)
  case atStart => exact ⟨0, none, 0, [], [], Nat.zero_le _, rfl, unhide HINV, Below.refl _ _⟩
  case round =>
    obtain ⟨k, aK, capK, xs, G, hk, rfl, HS, HB⟩ := hrel
    have hsw := HB.out.size
    have hbw : Below w.heap.size w wr := (unhide HBW).trans (HB.out.mono (by omega))
    by_cases hlt : k < t.kids.length
    · obtain ⟨b, o, ck, rfl, hpb, hcell, hrp⟩ := unhide HK k hlt
      obtain ⟨a3, p3, a4, p4, rfl⟩ := hrp.form
      obtain ⟨f0, f1, f2, f3, f4⟩ := hcell.carry (hbw.block b hpb)
      simp only at f0 f1 f2 f3 f4
      have htk : (t.kids.take (k + 1)).map g = (t.kids.take k).map g ++ [g t.kids[k]] := by
        rw [List.take_succ_eq_append_getElem hlt, List.map_append]; rfl
      have hlkl : ((t.kids.take k).map g).length = k := by simp; omega
      have hcl := unhide HC k hlt
      have HRP := hide hrp
      generalize t.kids[k] = x at *
      have hrowx := row5_alloc wr (.int .i64 x.sort) (.int .i64 x.num) (.string x.text) (.slice a3 x.names.length p3) (.slice a4 x.kids.length p4) 39
      have hsK := HS.out.kept (World.grownBy_alloc wr (.cells #[.int .i64 x.sort, .int .i64 x.num, .string x.text, .slice a3 x.names.length p3, .slice a4 x.kids.length p4] 39) none)
      have hbK : Below (w.heap.size + 2) W0 (wr.alloc (.cells #[.int .i64 x.sort, .int .i64 x.num, .string x.text, .slice a3 x.names.length p3, .slice a4 x.kids.length p4] 39)) := HB.out.alloc (by omega) _
      have hbwK : Below w.heap.size w (wr.alloc (.cells #[.int .i64 x.sort, .int .i64 x.num, .string x.text, .slice a3 x.names.length p3, .slice a4 x.kids.length p4] 39)) := hbw.alloc hbw.size _
      have HTK := hide htk; have HLK := hide hlkl; have HCL := hide hcl; have HSK := hide hsK; have HBK := hide hbK; have HBWK := hide hbwK; have HRX := hide hrowx
      have HSW := hide hsw; have HSZ0 := hide hs0
      clear htk hlkl hcl hsK hbK hbwK hrowx hrp hcell hpb hbw HS HB
      go_upto_region 5 with fail
      generalize (wr.alloc (.cells #[.int .i64 x.sort, .int .i64 x.num, .string x.text, .slice a3 x.names.length p3, .slice a4 x.kids.length p4] 39)) = WK at HSK HBK HBWK HRX ⊢
      have hsW : wr.heap.size < WK.heap.size := (unhide HRX).lt
      have hsW2 : w.heap.size + 3 ≤ WK.heap.size := (unhide HSK).size
      have k0 := (unhide HRX).cell (i := 0) (by omega); have k1 := (unhide HRX).cell (i := 1) (by omega); have k2 := (unhide HRX).cell (i := 2) (by omega); have k3 := (unhide HRX).cell (i := 3) (by omega); have k4 := (unhide HRX).cell (i := 4) (by omega)
      have t4 := (unhide HSK).cells.cell (i := 4) (by omega)
      simp only [row5] at k0 k1 k2 k3 k4 t4
      have hBc : WK.cell? ⟨B, 0, none⟩ = some (.func (.func f) #[] caps) := by rw [(unhide HBWK).cell (unhide HBL)]; exact unhide HBC
      have hcall : Calls Tryz.prog f (#[.agg #[.int .i64 x.sort, .int .i64 x.num, .string x.text, .slice a3 x.names.length p3, .slice a4 x.kids.length p4]] ++ caps) WK.drew fun e w6 => ∃ e0 e1 e2 a7 n7 cap7 a8 n8 cap8 F, e = .returned (.agg #[.int .i64 e0, .int .i64 e1, .string e2, .slice a7 n7 cap7, .slice a8 n8 cap8]) ∧ Hid (Own w6 (g x) ⟨.int .i64 e0, .int .i64 e1, .string e2, .slice a7 n7 cap7, .slice a8 n8 cap8⟩ F) ∧ F.Nodup ∧ Hid (∀ b, b ∈ F → WK.heap.size ≤ b ∧ b < w6.heap.size) ∧ Hid (Below WK.heap.size WK w6) ∧ WK.heap.size ≤ w6.heap.size ∧ Hid (SInv (w.heap.size + 3) (w.heap.size + 2) w6 t.sort (.slice none 0 0) (.slice aK k capK) [] ((t.kids.take k).map g) xs G) ∧ w6.cell? ⟨w.heap.size + 2, 4, none⟩ = some (.slice aK k capK) ∧ ∀ ob, (w6.alloc ob).cell? ⟨w.heap.size + 2, 4, none⟩ = some (.slice aK k capK) := by
        refine (unhide HCL WK.drew ⟨_, _, _, _, _⟩ (unhide HBWK).drew (Rep.carry (fun b hb => (unhide HBWK).drew.block b hb) (fun b hb => Nat.lt_of_lt_of_le hb (unhide HBWK).size) _ _ (unhide HRP))).mono ?_
        rintro e w6 ⟨d, F, rfl, ho, hn1, hl1, hb1⟩
        have hb1' : Below WK.heap.size WK w6 := (Below.refl _ WK).drew.trans hb1
        obtain ⟨a7, cap7, a8, cap8, rfl⟩ := ho.forms
        have hs6 := (unhide HSK).kept (w' := w6) ⟨hb1'.os, hb1'.tape, hb1'.output, hb1'.size, fun i hi _ => hb1'.block i hi⟩
        exact ⟨_, _, _, _, _, _, _, _, _, F, rfl, ho, hn1, hl1, hb1', hb1'.size, hs6, hs6.cells.cell (i := 4) (by omega), fun ob => (hs6.cells.alloc ob).cell (i := 4) (by omega)⟩
      have HCALL := hide hcall
      clear hcall HCL HRP
      generalize g x = gx at *
      go_region_law (first
        | ((refine step_append_lies _ (by rfl) _ _ _ (by rfl) (w.heap.size + 3) 39 i0 _ 5 80 Tryz.underlying37 (unhide HII) (unhide HZ0) (unhide HZ1) (unhide HZ2) rfl (by decide) (.slice aK k capK) k xs (by rfl) (by have := (unhide HS6).got.row; rw [unhide HLK] at this; exact this.alloc _) ⟨w6.heap.size, 0, none⟩ 1 1 (c5l ⟨.int .i64 e0, .int .i64 e1, .string e2, .slice a7 n7 cap7, .slice a8 n8 cap8⟩) (by rfl) (by rfl) (cell_five w6 _ _) (unhide HOW).one (by decide) (by have := unhide HLEN; unfold maxLen; omega) (by have := unhide HLEN; omega) (by simp; omega) (w6.heap.size + 1) (by simp) ?_; intro g2 cap2 w8 hown8 hgrow8 hat8 hlt8; have u4 := (SInv.atK (unhide HS6) hgrow8).cell (i := 4) (by omega); have uz4 := (SInv.atK (unhide HS6) hgrow8).frozen 4; simp only [row5] at u4))
        | (rw [if_pos (by first | rfl | simp [Region.wanted])]; go_simp; refine (unhide HCALL).mono ?_; rintro e w6 ⟨e0, e1, e2, a7, n7, cap7, a8, n8, cap8, F, rfl, HOW, hFn, HFL, HB6, hs6, HS6, t4c, t4d⟩))
      all_goals
        have hz6 : ∀ o, (w6.alloc o).heap.size = w6.heap.size + 1 := fun o => World.size_alloc _ _
        have hinv8 := SInv.kid (m := WK.heap.size) ((unhide HS6).kept (World.grownBy_alloc w6 (.cells #[.int .i64 e0, .int .i64 e1, .string e2, .slice a7 n7 cap7, .slice a8 n8 cap8] 39) none)) (Own.carry gx _ F (fun b hb => Below.heap_alloc _ _ _ (unhide HFL b hb).2) (unhide HOW)) hFn (fun b hb => ⟨(unhide HFL b hb).1, by rw [hz6]; have := (unhide HFL b hb).2; omega⟩)
          (fun b hb => ((unhide HSK).got.lt b hb).2.1) (fun b hb => ((unhide HSK).got.row.lt b hb).2) (fun b hb => ((unhide HSK).names.lt b hb).2) (unhide HSK).size (by rw [unhide HLK]; exact hown8) hgrow8 (hat8.elim (fun e => Or.inl (by rw [e]; rfl)) (fun e => Or.inr ⟨g2, rfl, by rw [hz6, e]; exact Nat.le_refl _⟩))
        rw [← unhide HTK] at hinv8
        have hb8 : Below (w.heap.size + 2) W0 (w8.setCell ⟨w.heap.size + 2, 4, none⟩ (.slice (some ⟨g2, 0, none⟩) (k + 1) cap2)) :=
          ((((unhide HBK).trans ((unhide HB6).mono (by omega))).alloc (by omega) (.cells #[.int .i64 e0, .int .i64 e1, .string e2, .slice a7 n7 cap7, .slice a8 n8 cap8] 39)).grown hgrow8 (by rw [hz6]; omega) (fun b e => by have := ((unhide HS6).got.row.lt b e).1; omega)).setCell (by simp) _
        have HI8 := hide hinv8; have HB8 := hide hb8
        have ke := wrkU (Nat.le_trans hk (Nat.le_trans (unhide HLEN) (by decide)))
        clear hinv8 hb8 hown8 hgrow8 hat8 hlt8 u4 uz4 HS6 HOW HFL HB6 HSK HBK t4c t4d k0 k1 k2 k3 k4 t4 f0 f1 f2 f3 f4
        go_wp2_with fail
        go_roundw
        case rel => exact ⟨k + 1, some ⟨g2, 0, none⟩, cap2, _, _, hlt, (by first | exact numU k | (rw [ke]; exact numU k)), unhide HI8, unhide HB8⟩
        case measure => first | exact measU hlt | (rw [ke]; exact measU hlt)
    · obtain rfl : k = t.kids.length := by omega
      have hmk : (t.kids.take t.kids.length).map g = t.kids.map g := by rw [List.take_length]
      obtain ⟨F, hown, hnd, hFl⟩ := HS.out.done (unhide HI0) (fun x hx => by simp at hx)
      rw [hmk] at hown
      have t0 := HS.out.cells.cell (i := 0) (by omega); have t1 := HS.out.cells.cell (i := 1) (by omega); have t2 := HS.out.cells.cell (i := 2) (by omega); have t3 := HS.out.cells.cell (i := 3) (by omega); have t4 := HS.out.cells.cell (i := 4) (by omega)
      have q2 := (unhide HR1).of_block (HB.out.block (w.heap.size + 1) (by omega))
      have z := q2.frozen
      have y0 := q2.cell (i := 0) (by omega); have y1 := q2.cell (i := 1) (by omega); have y2 := q2.cell (i := 2) (by omega); have y3 := q2.cell (i := 3) (by omega); have y4 := q2.cell (i := 4) (by omega)
      simp only [row5] at t0 t1 t2 t3 t4 y0 y1 y2 y3 y4
      have HOWN := hide hown; have HFL := hide hFl; have HBX := hide hbw
      clear hown hFl q2 hmk hbw
      go_wp2_with fail
      refine bodyPost_ret (v := .agg #[.int .i64 t.sort, .int .i64 0, .string ⟨#[]⟩, .slice none 0 0, .slice aK t.kids.length capK]) (by simp [results, Tryz.results113, go_sem, y0, y1, y2, y3, y4]) rfl ⟨⟨_, _, _, _, _⟩, F, rfl, ?_, hnd, ?_, ?_⟩
      · exact Own.carry _ _ F (fun b hb => heap_set5s _ _ _ _ _ _ _ _ (by have := (unhide HFL b hb).1; omega)) (unhide HOWN)
      · intro b hb
        rw [size_set5s]
        have := unhide HFL b hb; omega
      · exact below_set5s (unhide HBX) _ _ _ _ _ _ (by omega)
end Go.Proofs.YtcpfelaffclalaaGreatDoor
