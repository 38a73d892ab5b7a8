/- The walks of szStringS, szTree, szTreeS: what they answer, and that they turn nothing that was there. No conditions. -/
import Derived.Test.YtffdofllebbcgaaDoorMerged04
namespace Go.Proofs.YtffdofllebbcgaaDoor
open Go Go.RowKit

theorem wK_take (ks : List Tr) (k : Nat) (h : k < ks.length) : wK (ks.take (k + 1)) = wK (ks.take k) + wT ks[k] + 1 := by
  induction ks generalizing k with
  | nil => simp at h
  | cons a r ih =>
    cases k with
    | zero => simp [wK]; omega
    | succ k => simp only [List.take_succ_cons, wK, List.getElem_cons_succ]; rw [ih k (by simpa using h)]; omega

/-- What szTree says of trees smaller than n. -/
def SzSaid (n : Nat) : Prop := ∀ (t : Tr), tsz t < n → ∀ (P : Nat → Prop) (c : C5) (left : Int) (w : World), (∀ b, P b → b < w.heap.size) → Rep P w t c → 0 ≤ left → left ≤ 1048576 →
    Calls Tryd.prog 21 #[.agg #[c.c0, c.c1, c.c2, c.c3, c.c4], .int .i64 left] w fun e w' => ∃ r : Int, e = .returned (.int .i64 r) ∧ (r = -1 ∨ (0 ≤ r ∧ r + wT t = left)) ∧ Below w.heap.size w w'

set_option maxHeartbeats 400000 in
theorem szTreeS_any (n : Nat) (IH : SzSaid n) (t : Tr) (hn : tsz t ≤ n) (P : Nat → Prop) (a : Option Addr) (cap : Nat) (left : Int) (w : World) (hP : ∀ b, P b → b < w.heap.size)
    (hlen : t.kids.length ≤ 9223372036854775807)
    (hc : ∀ i, (hi : i < t.kids.length) → ∃ b o c, a = some ⟨b, o, none⟩ ∧ P b ∧ C5.at w b (o + i * 5) c ∧ Rep P w t.kids[i] c) (h0 : 0 ≤ left) (h1 : left ≤ 1048576) :
    Calls Tryd.prog 45 #[.slice a t.kids.length cap, .int .i64 left] w fun e w' => ∃ r : Int, e = .returned (.int .i64 r) ∧ (r = -1 ∨ (0 ≤ r ∧ r + wK t.kids = left)) ∧ Below w.heap.size w w' := by
  generalize hks : t.kids = ks at *
  have HK := hide hks; clear hks
  have HC := hide hc; clear hc
  have HP := hide hP; clear hP
  have HI := hide IH; clear IH
  by_cases hneg : left - ks.length < 0
  · go_enter Tryd.func45, Tryd.ntmps45
    go_wp2_with fail
    go_ret
    exact ⟨_, rfl, Or.inl rfl, Below.refl _ _⟩
  · go_enter Tryd.func45, Tryd.ntmps45
    go_wp2_with fail
    go_loopw [1, 5] (fun l i wr => ∃ (k : Nat) (q : Int), k ≤ ks.length ∧ i = .int .i64 k ∧ l = .int .i64 q ∧ 0 ≤ q ∧ q ≤ 1048576 ∧ Hid (q + ks.length + wK (ks.take k) = left + k) ∧ Below w.heap.size w wr) (fun _ i _ => ks.length - (intOf i).toNat)
    case atStart => exact ⟨0, _, Nat.zero_le _, rfl, rfl, by omega, by omega, by simp [Hid, wK], Below.refl _ _⟩
    case round =>
      obtain ⟨k, q, hk, rfl, rfl, hq0, hq1, HQ, hb⟩ := hrel
      by_cases hlt : k < ks.length
      · obtain ⟨b, o, c, rfl, hpb, hcell, hrep⟩ := unhide HC k hlt
        have hcell' := hcell.carry (hb.block b (unhide HP b hpb))
        obtain ⟨c0, c1, c2, c3, c4⟩ := c
        obtain ⟨e0, e1, e2, e3, e4⟩ := hcell'
        simp only at e0 e1 e2 e3 e4
        have HR := hide hrep; clear hrep hcell hpb
        have hmem : ks[k] ∈ t.kids := by rw [unhide HK]; exact List.getElem_mem hlt
        have hsm : tsz ks[k] < n := by have := tsz_kid hmem; omega
        have hts := wK_take ks k hlt
        have HT := hide hts; clear hts hmem
        go_wp2_with fail
        refine (unhide HI ks[k] hsm P ⟨c0, c1, c2, c3, c4⟩ q wr (fun b hb' => Nat.lt_of_lt_of_le (unhide HP b hb') hb.size) (Rep.carry (fun b hb' => hb.block b (unhide HP b hb')) (fun _ h => h) _ _ (unhide HR)) hq0 hq1).mono ?_
        rintro e w' ⟨r, rfl, hr, hb'⟩
        have hb2 := hb.trans (hb'.mono hb.size)
        clear hb'
        rcases hr with rfl | ⟨hr0, hr1⟩
        · go_wp2_with fail
          go_ret
          exact ⟨_, rfl, Or.inl rfl, hb2⟩
        · have HR1 := hide hr1; clear hr1
          have hr2 : r ≤ 1048576 := by have := unhide HR1; omega
          go_wp2_with fail
          go_roundw
          case rel => exact ⟨k + 1, _, by omega, by go_num, rfl, by omega, by omega, by have := HQ.out; have := unhide HT; have := unhide HR1; show _ = _; omega, hb2⟩
          case measure => simp [intOf]; omega
      · go_wp2_with fail
        go_ret
        refine ⟨_, rfl, Or.inr ⟨hq0, ?_⟩, hb⟩
        have := HQ.out
        rw [List.take_of_length_le (by omega)] at this
        omega

set_option maxHeartbeats 400000 in
theorem szTree_step (n : Nat) (IH : SzSaid n) : SzSaid (n + 1) := by
  intro t hn P c left w hP hrep h0 h1
  obtain ⟨c0, c1, c2, c3, c4⟩ := c
  obtain ⟨e0, e1, e2, -, -, htx, hns, a, cap, e4, hlen, hks⟩ := hrep.open
  simp only at e0 e1 e2 e4 hns
  subst e0 e1 e2 e4
  have hwt : wT t = t.text.size + wS t.names + wK t.kids := by obtain ⟨s, n, tx, ns, ks⟩ := t; rfl
  have HW := hide hwt; have HP := hide hP; have HK := hide hks; have HN := hide hns; have HI := hide IH; have HR := hide hrep
  clear hwt hP hks hns IH hrep
  have hbx : ∀ o, Below w.heap.size w (w.alloc o) := fun o => (Below.refl _ _).alloc (Nat.le_refl _) o
  by_cases hneg : left - t.text.size < 0
  · go_enter Tryd.func21, Tryd.ntmps21
    go_wp2_with fail
    go_ret
    exact ⟨_, rfl, Or.inl rfl, hbx _⟩
  · go_enter Tryd.func21, Tryd.ntmps21
    go_wp2_with fail
    refine (szStringS_any _ t.names _ _ ((unhide HN).carry (P := P) (Q := P) (fun b hb => (hbx _).block b (unhide HP b hb)) (fun _ h => h)) (by omega) (by omega)).mono ?_
    rintro e w' ⟨r, rfl, hr, rfl⟩
    rcases hr with rfl | ⟨hr0, hr1⟩
    · go_wp2_with fail
      go_ret
      exact ⟨_, rfl, Or.inl rfl, hbx _⟩
    · have HR1 := hide hr1; clear hr1
      have hr2 : r ≤ 1048576 := by have := unhide HR1; omega
      go_wp2_with fail
      refine (szTreeS_any n (unhide HI) t (by omega) P a cap r _ (fun b hb => Nat.lt_of_lt_of_le (unhide HP b hb) (hbx _).size) hlen (fun i hi => ?_) hr0 hr2).mono ?_
      · obtain ⟨b, o, c, h1, h2, h3, h4⟩ := unhide HK i hi
        exact ⟨b, o, c, h1, h2, h3.carry ((hbx _).block b (unhide HP b h2)), Rep.carry (fun b hb => (hbx _).block b (unhide HP b hb)) (fun _ h => h) _ _ h4⟩
      rintro e w' ⟨r', rfl, hr', hb'⟩
      have hb2 := (hbx _).trans (hb'.mono (hbx _).size)
      rcases hr' with rfl | ⟨hr0', hr1'⟩
      · go_wp2_with fail
        go_ret
        exact ⟨_, rfl, Or.inl rfl, hb2⟩
      · have HR2 := hide hr1'; clear hr1'
        go_wp2_with fail
        go_ret
        exact ⟨_, rfl, Or.inr ⟨hr0', by have := unhide HR1; have := unhide HR2; have := unhide HW; omega⟩, hb2⟩

theorem szTree_all : ∀ n, SzSaid n
  | 0 => fun t h => by omega
  | n + 1 => szTree_step n (szTree_all n)

theorem szTree_any (t : Tr) (P : Nat → Prop) (c : C5) (left : Int) (w : World) (hP : ∀ b, P b → b < w.heap.size) (hrep : Rep P w t c) (h0 : 0 ≤ left) (h1 : left ≤ 1048576) :
    Calls Tryd.prog 21 #[.agg #[c.c0, c.c1, c.c2, c.c3, c.c4], .int .i64 left] w fun e w' => ∃ r : Int, e = .returned (.int .i64 r) ∧ (r = -1 ∨ (0 ≤ r ∧ r + wT t = left)) ∧ Below w.heap.size w w' :=
  szTree_all (tsz t + 1) t (by omega) P c left w hP hrep h0 h1
end Go.Proofs.YtffdofllebbcgaaDoor
