/- Small laws of lists of strings, of a cell that is set. No program walked but one fact of its types; no conditions. -/
import Derived.Test.YtbigchdhpdgicaaDoorRows
import Derived.Test.YtbigchdhpdgicaaDoorPart00
import Derived.Deep.OwnRows
import Derived.Deep.RegionWith
namespace Go.Proofs.YtbigchdhpdgicaaDoor
open Go Go.RowKit

theorem wS_take (ss : List ByteArray) (k : Nat) (h : k < ss.length) : wS (ss.take (k + 1)) = wS (ss.take k) + ss[k].size + 1 := by
  induction ss generalizing k with
  | nil => simp at h
  | cons a r ih =>
    cases k with
    | zero => simp [wS]
    | succ k => simp only [List.take_succ_cons, wS, List.getElem_cons_succ]; rw [ih k (by simpa using h)]; omega

theorem infoString : (Tryd.prog.info? 9).map (fun i => (i.zero, i.size, i.bytes)) = some (some (.string ByteArray.empty), 1, 16) := by kernel_rfl
theorem size_setCell (w : World) (a : Addr) (v : Value) : (w.setCell a v).heap.size = w.heap.size := by simp [World.setCell]
end Go.Proofs.YtbigchdhpdgicaaDoor

/- The walk of the law's own eqStringS: two slices of the same strings are the same. No conditions. -/

namespace Go.Proofs.YtbigchdhpdgicaaDoor
open Go Go.RowKit

set_option maxHeartbeats 400000 in
theorem eqStringS_any (v u : Value) (ss : List ByteArray) (w : World) {P Q : Nat → Prop} (hv : StrsAt P w v ss) (hu : StrsAt Q w u ss) (hP : ∀ b, P b → b < w.heap.size) (hQ : ∀ b, Q b → b < w.heap.size) :
    Calls Tryd.prog 49 #[v, u] w fun e w' => e = .returned (.bool true) ∧ Below w.heap.size w w' := by
  obtain ⟨a, cap, rfl, hlen, hc⟩ := hv
  obtain ⟨a2, cap2, rfl, -, hc2⟩ := hu
  have HC := hide hc; have HC2 := hide hc2; have HP := hide hP; have HQ := hide hQ
  clear hc hc2 hP hQ
  have hne : ((ss.length : Int) != (ss.length : Int)) = false := by simp
  go_enter Tryd.func49, Tryd.ntmps49
  go_wp2_with fail
  clear hne
  go_loopw [5] (fun i wr => ∃ (k : Nat), k ≤ ss.length ∧ i = .int .i64 k ∧ Below w.heap.size w wr) (fun i _ => ss.length - (intOf i).toNat)
  case atStart => exact ⟨0, Nat.zero_le _, rfl, Below.refl _ _⟩
  case round =>
    obtain ⟨k, hk, rfl, hb⟩ := hrel
    by_cases hlt : k < ss.length
    · obtain ⟨b, o, rfl, hpb, hcell, -⟩ := unhide HC k hlt
      obtain ⟨b2, o2, rfl, hpb2, hcell2, -⟩ := unhide HC2 k hlt
      have e1 : wr.cell? ⟨b, o + k, none⟩ = some (.string ss[k]) := by rw [hb.cell (unhide HP b hpb)]; exact hcell
      have e2 : wr.cell? ⟨b2, o2 + k, none⟩ = some (.string ss[k]) := by rw [hb.cell (unhide HQ b2 hpb2)]; exact hcell2
      clear hcell hcell2 hpb hpb2
      go_wp2_with fail
      go_region
      go_wp2_with fail
      go_roundw
      case rel => exact ⟨k + 1, by omega, by go_num, hb.drew⟩
      case measure => simp [intOf]; omega
    · go_wp2_with fail
      go_ret
      exact ⟨rfl, hb⟩
end Go.Proofs.YtbigchdhpdgicaaDoor

/- The walks of szStringS, toStringS, eqStringS: what they answer, and that they turn nothing that was there. No conditions but toStringS's on the number of strings. -/

namespace Go.Proofs.YtbigchdhpdgicaaDoor
open Go Go.RowKit

set_option maxHeartbeats 400000 in
theorem szStringS_any (v : Value) (ss : List ByteArray) (left : Int) (w : World) {P : Nat → Prop} (hv : StrsAt P w v ss) (h0 : 0 ≤ left) (h1 : left ≤ 1048576) :
    Calls Tryd.prog 38 #[v, .int .i64 left] w fun e w' => ∃ r : Int, e = .returned (.int .i64 r) ∧ (r = -1 ∨ (0 ≤ r ∧ r + wS ss = left)) ∧ w' = w := by
  obtain ⟨a, cap, rfl, hlen, hc⟩ := hv
  have HC := hide hc; clear hc
  by_cases hneg : left - ss.length < 0
  · go_enter Tryd.func38, Tryd.ntmps38
    go_wp2
    go_ret
    exact ⟨_, rfl, Or.inl rfl, rfl⟩
  · go_enter Tryd.func38, Tryd.ntmps38
    go_wp2
    go_loop [1, 5] (fun l i => ∃ (k : Nat) (q : Int), k ≤ ss.length ∧ i = .int .i64 k ∧ l = .int .i64 q ∧ 0 ≤ q ∧ q ≤ 1048576 ∧ Hid (q + ss.length + wS (ss.take k) = left + k)) (fun _ i => ss.length - (intOf i).toNat)
    case atStart => exact ⟨0, _, Nat.zero_le _, rfl, rfl, by omega, by omega, by simp [Hid, wS]⟩
    case round =>
      obtain ⟨k, q, hk, rfl, rfl, hq0, hq1, HQ⟩ := hrel
      by_cases hlt : k < ss.length
      · obtain ⟨b, o, rfl, _, hcell, hsz⟩ := unhide HC k hlt
        have hts := wS_take ss k hlt
        have HT := hide hts; clear hts
        by_cases hn : q - ss[k].size < 0
        · go_wp2
          go_ret
          exact ⟨_, rfl, Or.inl rfl, rfl⟩
        · go_wp2
          go_round
          case rel => exact ⟨k + 1, _, by omega, by go_num, rfl, by omega, by omega, by have := HQ.out; have := unhide HT; show _ = _; omega⟩
          case measure => simp [intOf]; omega
      · go_wp2
        go_ret
        refine ⟨_, rfl, Or.inr ⟨hq0, ?_⟩, rfl⟩
        have := HQ.out
        rw [List.take_of_length_le (by omega)] at this
        omega


set_option maxHeartbeats 400000 in
theorem toStringS_any (v : Value) (ss : List ByteArray) (w : World) {P : Nat → Prop} (hP : ∀ b, P b → b < w.heap.size) (hv : StrsAt P w v ss) (h1 : ss.length ≤ 1048576) :
    Calls Tryd.prog 42 #[v] w fun e w' => ∃ v', e = .returned v' ∧ (∃ a, v' = .slice a ss.length ss.length) ∧ StrsAt (New w w') w' v' ss ∧ Below w.heap.size w w' := by
  obtain ⟨a, cap, rfl, hlen, hc⟩ := hv
  have HC := hide hc; have HP := hide hP; clear hc hP
  have hmk := run_make_row' (P := Tryd.prog) 38 9 (.string ByteArray.empty) 16 Tryd.underlying38 infoString rfl .i64 .i64 ss.length (by omega) (by omega)
  go_enter Tryd.func42, Tryd.ntmps42
  go_wp2_with fail
  clear hmk
  go_loopw [4] (fun i wr => ∃ (k : Nat), k ≤ ss.length ∧ i = .int .i64 k ∧ Hid (wr.rowIs w.heap.size 9 ss.length (fun j => .string (if j < k then (ss[j]?).getD ByteArray.empty else ByteArray.empty))) ∧ Below w.heap.size w wr) (fun i _ => ss.length - (intOf i).toNat)
  case atStart => exact ⟨0, Nat.zero_le _, rfl, hide (by simpa using World.rowIs_made w (.string ByteArray.empty) ss.length _), (Below.refl _ _).alloc (Nat.le_refl _) _⟩
  case round =>
    obtain ⟨k, hk, rfl, HR, hb⟩ := hrel
    by_cases hlt : k < ss.length
    · obtain ⟨b, o, rfl, hpb, hcell, hsz⟩ := unhide HC k hlt
      have hcell' : wr.cell? ⟨b, o + k, none⟩ = some (.string ss[k]) := by rw [hb.cell (unhide HP b hpb)]; exact hcell
      have hf := HR.out.frozen k
      have hcc := HR.out.cell hlt
      simp only [Nat.lt_irrefl, if_false] at hcc
      clear hcell hpb
      go_wp2_with fail
      go_roundw
      case rel =>
        refine ⟨k + 1, by omega, by go_num, ?_, hb.setCell (Nat.le_refl _) _⟩
        refine (HR.out.set k _).congr fun i hi => ?_
        by_cases e : i = k
        · subst e; simp [hi]
        · simp only [if_neg e]
          by_cases e2 : i < k
          · rw [if_pos e2, if_pos (by omega)]
          · rw [if_neg e2, if_neg (by omega)]
      case measure => simp [intOf]; omega
    · go_wp2_with fail
      go_ret
      have hrow := HR.out
      refine ⟨_, rfl, ⟨_, rfl⟩, ⟨_, _, rfl, by omega, fun i hi => ⟨w.heap.size, 0, rfl, ⟨Nat.le_refl _, hrow.lt⟩, ?_, ?_⟩⟩, hb⟩
      · rw [Nat.zero_add, hrow.cell hi, if_pos (by omega)]; simp [hi]
      · obtain ⟨_, _, _, _, _, h⟩ := unhide HC i hi; exact h


end Go.Proofs.YtbigchdhpdgicaaDoor

/- The walks of szStringS, szTree, szTreeS: what they answer, and that they turn nothing that was there. No conditions. -/

namespace Go.Proofs.YtbigchdhpdgicaaDoor
open Go Go.RowKit

theorem wK_take (ks : List Tr) (k : Nat) (h : k < ks.length) : wK (ks.take (k + 1)) = wK (ks.take k) + wT ks[k] + 1 := by
  induction ks generalizing k with
  | nil => simp at h
  | cons a r ih =>
    cases k with
    | zero => simp [wK]; omega
    | succ k => simp only [List.take_succ_cons, wK, List.getElem_cons_succ]; rw [ih k (by simpa using h)]; omega

/-- What szTree says of trees smaller than n. -/
def SzSaid (n : Nat) : Prop := ∀ (t : Tr), tsz t < n → ∀ (P : Nat → Prop) (c : C5) (left : Int) (w : World), (∀ b, P b → b < w.heap.size) → Rep P w t c → 0 ≤ left → left ≤ 1048576 →
    Calls Tryd.prog 28 #[.agg #[c.c0, c.c1, c.c2, c.c3, c.c4], .int .i64 left] w fun e w' => ∃ r : Int, e = .returned (.int .i64 r) ∧ (r = -1 ∨ (0 ≤ r ∧ r + wT t = left)) ∧ Below w.heap.size w w'

set_option maxHeartbeats 400000 in
theorem szTreeS_any (n : Nat) (IH : SzSaid n) (t : Tr) (hn : tsz t ≤ n) (P : Nat → Prop) (a : Option Addr) (cap : Nat) (left : Int) (w : World) (hP : ∀ b, P b → b < w.heap.size)
    (hlen : t.kids.length ≤ 9223372036854775807)
    (hc : ∀ i, (hi : i < t.kids.length) → ∃ b o c, a = some ⟨b, o, none⟩ ∧ P b ∧ C5.at w b (o + i * 5) c ∧ Rep P w t.kids[i] c) (h0 : 0 ≤ left) (h1 : left ≤ 1048576) :
    Calls Tryd.prog 39 #[.slice a t.kids.length cap, .int .i64 left] w fun e w' => ∃ r : Int, e = .returned (.int .i64 r) ∧ (r = -1 ∨ (0 ≤ r ∧ r + wK t.kids = left)) ∧ Below w.heap.size w w' := by
  generalize hks : t.kids = ks at *
  have HK := hide hks; clear hks
  have HC := hide hc; clear hc
  have HP := hide hP; clear hP
  have HI := hide IH; clear IH
  by_cases hneg : left - ks.length < 0
  · go_enter Tryd.func39, Tryd.ntmps39
    go_wp2_with fail
    go_ret
    exact ⟨_, rfl, Or.inl rfl, Below.refl _ _⟩
  · go_enter Tryd.func39, Tryd.ntmps39
    go_wp2_with fail
    go_loopw [1, 5] (fun l i wr => ∃ (k : Nat) (q : Int), k ≤ ks.length ∧ i = .int .i64 k ∧ l = .int .i64 q ∧ 0 ≤ q ∧ q ≤ 1048576 ∧ Hid (q + ks.length + wK (ks.take k) = left + k) ∧ Below w.heap.size w wr) (fun _ i _ => ks.length - (intOf i).toNat)
    case atStart => exact ⟨0, _, Nat.zero_le _, rfl, rfl, by omega, by omega, by simp [Hid, wK], Below.refl _ _⟩
    case round =>
      obtain ⟨k, q, hk, rfl, rfl, hq0, hq1, HQ, hb⟩ := hrel
      by_cases hlt : k < ks.length
      · obtain ⟨b, o, c, rfl, hpb, hcell, hrep⟩ := unhide HC k hlt
        have hcell' := hcell.carry (hb.block b (unhide HP b hpb))
        obtain ⟨c0, c1, c2, c3, c4⟩ := c
        obtain ⟨e0, e1, e2, e3, e4⟩ := hcell'
        simp only at e0 e1 e2 e3 e4
        have HR := hide hrep; clear hrep hcell hpb
        have hmem : ks[k] ∈ t.kids := by rw [unhide HK]; exact List.getElem_mem hlt
        have hsm : tsz ks[k] < n := by have := tsz_kid hmem; omega
        have hts := wK_take ks k hlt
        have HT := hide hts; clear hts hmem
        go_wp2_with fail
        refine (unhide HI ks[k] hsm P ⟨c0, c1, c2, c3, c4⟩ q wr (fun b hb' => Nat.lt_of_lt_of_le (unhide HP b hb') hb.size) (Rep.carry (fun b hb' => hb.block b (unhide HP b hb')) (fun _ h => h) _ _ (unhide HR)) hq0 hq1).mono ?_
        rintro e w' ⟨r, rfl, hr, hb'⟩
        have hb2 := hb.trans (hb'.mono hb.size)
        clear hb'
        rcases hr with rfl | ⟨hr0, hr1⟩
        · go_wp2_with fail
          go_ret
          exact ⟨_, rfl, Or.inl rfl, hb2⟩
        · have HR1 := hide hr1; clear hr1
          have hr2 : r ≤ 1048576 := by have := unhide HR1; omega
          go_wp2_with fail
          go_roundw
          case rel => exact ⟨k + 1, _, by omega, by go_num, rfl, by omega, by omega, by have := HQ.out; have := unhide HT; have := unhide HR1; show _ = _; omega, hb2⟩
          case measure => simp [intOf]; omega
      · go_wp2_with fail
        go_ret
        refine ⟨_, rfl, Or.inr ⟨hq0, ?_⟩, hb⟩
        have := HQ.out
        rw [List.take_of_length_le (by omega)] at this
        omega

set_option maxHeartbeats 400000 in
theorem szTree_step (n : Nat) (IH : SzSaid n) : SzSaid (n + 1) := by
  intro t hn P c left w hP hrep h0 h1
  obtain ⟨c0, c1, c2, c3, c4⟩ := c
  obtain ⟨e0, e1, e2, -, -, htx, hns, a, cap, e4, hlen, hks⟩ := hrep.open
  simp only at e0 e1 e2 e4 hns
  subst e0 e1 e2 e4
  have hwt : wT t = t.text.size + wS t.names + wK t.kids := by obtain ⟨s, n, tx, ns, ks⟩ := t; rfl
  have HW := hide hwt; have HP := hide hP; have HK := hide hks; have HN := hide hns; have HI := hide IH; have HR := hide hrep
  clear hwt hP hks hns IH hrep
  have hbx : ∀ o, Below w.heap.size w (w.alloc o) := fun o => (Below.refl _ _).alloc (Nat.le_refl _) o
  by_cases hneg : left - t.text.size < 0
  · go_enter Tryd.func28, Tryd.ntmps28
    go_wp2_with fail
    go_ret
    exact ⟨_, rfl, Or.inl rfl, hbx _⟩
  · go_enter Tryd.func28, Tryd.ntmps28
    go_wp2_with fail
    refine (szStringS_any _ t.names _ _ ((unhide HN).carry (P := P) (Q := P) (fun b hb => (hbx _).block b (unhide HP b hb)) (fun _ h => h)) (by omega) (by omega)).mono ?_
    rintro e w' ⟨r, rfl, hr, rfl⟩
    rcases hr with rfl | ⟨hr0, hr1⟩
    · go_wp2_with fail
      go_ret
      exact ⟨_, rfl, Or.inl rfl, hbx _⟩
    · have HR1 := hide hr1; clear hr1
      have hr2 : r ≤ 1048576 := by have := unhide HR1; omega
      go_wp2_with fail
      refine (szTreeS_any n (unhide HI) t (by omega) P a cap r _ (fun b hb => Nat.lt_of_lt_of_le (unhide HP b hb) (hbx _).size) hlen (fun i hi => ?_) hr0 hr2).mono ?_
      · obtain ⟨b, o, c, h1, h2, h3, h4⟩ := unhide HK i hi
        exact ⟨b, o, c, h1, h2, h3.carry ((hbx _).block b (unhide HP b h2)), Rep.carry (fun b hb => (hbx _).block b (unhide HP b hb)) (fun _ h => h) _ _ h4⟩
      rintro e w' ⟨r', rfl, hr', hb'⟩
      have hb2 := (hbx _).trans (hb'.mono (hbx _).size)
      rcases hr' with rfl | ⟨hr0', hr1'⟩
      · go_wp2_with fail
        go_ret
        exact ⟨_, rfl, Or.inl rfl, hb2⟩
      · have HR2 := hide hr1'; clear hr1'
        go_wp2_with fail
        go_ret
        exact ⟨_, rfl, Or.inr ⟨hr0', by have := unhide HR1; have := unhide HR2; have := unhide HW; omega⟩, hb2⟩

theorem szTree_all : ∀ n, SzSaid n
  | 0 => fun t h => by omega
  | n + 1 => szTree_step n (szTree_all n)

theorem szTree_any (t : Tr) (P : Nat → Prop) (c : C5) (left : Int) (w : World) (hP : ∀ b, P b → b < w.heap.size) (hrep : Rep P w t c) (h0 : 0 ≤ left) (h1 : left ≤ 1048576) :
    Calls Tryd.prog 28 #[.agg #[c.c0, c.c1, c.c2, c.c3, c.c4], .int .i64 left] w fun e w' => ∃ r : Int, e = .returned (.int .i64 r) ∧ (r = -1 ∨ (0 ≤ r ∧ r + wT t = left)) ∧ Below w.heap.size w w' :=
  szTree_all (tsz t + 1) t (by omega) P c left w hP hrep h0 h1
end Go.Proofs.YtbigchdhpdgicaaDoor
