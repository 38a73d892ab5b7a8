/- The walks of toKind, toKindS once more: the copy that they make lies in new blocks of which nothing is frozen. No conditions but the schema's weight, at most 2^20. -/
import Derived.Test.YtcpfelaffclalaaGreatDoorPart22
import Derived.Test.YtcpfelaffclalaaGreatDoorPart00
namespace Go.Proofs.YtcpfelaffclalaaGreatDoor
open Go Go.RowKit

def ToFSaid (n : Nat) : Prop := ∀ (t : Kd), ksz t < n → ∀ (P : Nat → Prop) (c : C3) (w : World), (∀ b, P b → b < w.heap.size) → KRep P w t c → wKd t ≤ 1048576 →
    Calls Tryz.prog 8 #[.agg #[c.c0, c.c1, c.c2]] w fun e w' => ∃ c' : C3, e = .returned (.agg #[c'.c0, c'.c1, c'.c2]) ∧ KRep (NewF w w') w' t c' ∧ Below w.heap.size w w'

/-- What the loop of toKindS has laid after k rounds: the row, and the schemas that its first cells are. -/
def FLaid (w wr : World) (ks : List Kd) (k : Nat) : Prop :=
  ∃ f, wr.rowIs w.heap.size 30 (ks.length * 3) f ∧ ∀ j, j < k → (hj : j < ks.length) → ∃ c : C3, f (j * 3) = c.c0 ∧ f (j * 3 + 1) = c.c1 ∧ f (j * 3 + 2) = c.c2 ∧
    KRep (fun b => (w.heap.size + 1 ≤ b ∧ b < wr.heap.size) ∧ FreeB wr b) wr ks[j] c

theorem FLaid.step {w wr w' : World} {ks : List Kd} {k : Nat} (hlt : k < ks.length) (hL : FLaid w wr ks k) (hb' : Below wr.heap.size wr w') (c : C3) (hr : KRep (NewF wr w') w' ks[k] c) :
    FLaid w (((w'.setCell ⟨w.heap.size, k * 3, none⟩ c.c0).setCell ⟨w.heap.size, k * 3 + 1, none⟩ c.c1).setCell ⟨w.heap.size, k * 3 + 2, none⟩ c.c2) ks (k + 1) := by
  obtain ⟨f, hrow, hf⟩ := hL
  have hlt0 := hrow.lt
  have hrow' := hrow.of_block (hb'.block _ hrow.lt)
  have hs := hb'.size
  refine ⟨_, ((hrow'.set (k * 3) c.c0).set (k * 3 + 1) c.c1).set (k * 3 + 2) c.c2, fun j hj hjl => ?_⟩
  by_cases e : j = k
  · subst e
    refine ⟨c, by simp, by simp, by simp, ?_⟩
    refine KRep.carry (fun b hb => heap_set3 _ _ _ _ _ _ _ (by have := hb.1.1; omega)) (fun b hb => ⟨?_, hb.2.of_block (heap_set3 _ _ _ _ _ _ _ (by have := hb.1.1; omega))⟩) _ _ hr
    simp only [size_setCell]
    have := hb.1.1; have := hb.1.2
    omega
  · obtain ⟨d, g0, g1, g2, hd⟩ := hf j (by omega) hjl
    refine ⟨d, ?_, ?_, ?_, ?_⟩
    · repeat rw [if_neg (by omega)]
      exact g0
    · repeat rw [if_neg (by omega)]
      exact g1
    · repeat rw [if_neg (by omega)]
      exact g2
    · refine KRep.carry (fun b hb => ?_) (fun b hb => ?_) _ _ hd
      · rw [heap_set3 _ _ _ _ _ _ _ (by omega), hb'.block b hb.1.2]
      · exact ⟨by simp only [size_setCell]; omega, hb.2.of_block (by rw [heap_set3 _ _ _ _ _ _ _ (by omega), hb'.block b hb.1.2])⟩

theorem FLaid.done {w wr : World} {ks : List Kd} (hL : FLaid w wr ks ks.length) : NewF w wr w.heap.size ∧ KRepK (NewF w wr) wr w.heap.size 0 ks := by
  obtain ⟨f, hrow, hf⟩ := hL
  refine ⟨⟨⟨Nat.le_refl _, hrow.lt⟩, fun o => hrow.frozen o⟩, KRepK.mk fun i hi => ?_⟩
  obtain ⟨d, g0, g1, g2, hd⟩ := hf i hi hi
  refine ⟨d, ?_, KRep.carry (fun _ _ => rfl) (fun b hb => ⟨⟨by omega, hb.1.2⟩, hb.2⟩) _ _ hd⟩
  simp only [Nat.zero_add, C3.at]
  rw [hrow.cell (i := i * 3) (by omega), hrow.cell (i := i * 3 + 1) (by omega), hrow.cell (i := i * 3 + 2) (by omega), g0, g1, g2]
  exact ⟨rfl, rfl, rfl⟩

set_option maxHeartbeats 400000 in
theorem toKindS_free (n : Nat) (IH : ToFSaid n) (t : Kd) (hn : ksz t ≤ n) (P : Nat → Prop) (a : Option Addr) (cap : Nat) (w : World) (hP : ∀ b, P b → b < w.heap.size)
    (hlen : t.kids.length ≤ 1048576) (hwt : wKs t.kids ≤ 1048576)
    (hc : ∀ i, (hi : i < t.kids.length) → ∃ b o c, a = some ⟨b, o, none⟩ ∧ P b ∧ C3.at w b (o + i * 3) c ∧ KRep P w t.kids[i] c) :
    Calls Tryz.prog 27 #[.slice a t.kids.length cap] w fun e w' => ∃ b, e = .returned (.slice (some ⟨b, 0, none⟩) t.kids.length t.kids.length) ∧ NewF w w' b ∧ KRepK (NewF w w') w' b 0 t.kids ∧ Below w.heap.size w w' := by
  generalize hks : t.kids = ks at *
  have HK := hide hks; clear hks
  have HC := hide hc; clear hc
  have HP := hide hP; clear hP
  have HI := hide IH; clear IH
  have HW := hide hwt; clear hwt
  have hmk := run_make_kind ks.length hlen
  go_enter Tryz.func27, Tryz.ntmps27
  go_wp2_with fail
  clear hmk
  go_loopw [4] (fun i wr => ∃ (k : Nat), k ≤ ks.length ∧ i = .int .i64 k ∧ Hid (FLaid w wr ks k) ∧ Below w.heap.size w wr) (fun i _ => ks.length - (intOf i).toNat)
  case atStart =>
    have hrow := World.rowIs_alloc w (madeCells z3 (ks.length * 3)) 30 (fun i => (madeCells z3 (ks.length * 3))[i]?.getD undef) (fun i hi => by simp [hi])
    rw [size_madeCells] at hrow
    exact ⟨0, Nat.zero_le _, rfl, hide ⟨_, hrow, fun j hj => by omega⟩, (Below.refl _ _).alloc (Nat.le_refl _) _⟩
  case round =>
    obtain ⟨k, hk, rfl, HL, hb⟩ := hrel
    by_cases hlt : k < ks.length
    · obtain ⟨b, o, c, rfl, hpb, hcell, hrep⟩ := unhide HC k hlt
      have hcell' := hcell.carry (hb.block b (unhide HP b hpb))
      obtain ⟨c0, c1, c2⟩ := c
      obtain ⟨e0, e1, e2⟩ := hcell'
      simp only at e0 e1 e2
      have HR := hide hrep; clear hrep hcell hpb
      have hmem : ks[k] ∈ t.kids := by rw [unhide HK]; exact List.getElem_mem hlt
      have hsm : ksz ks[k] < n := by have := ksz_kid hmem; omega
      have hwk : wKd ks[k] ≤ 1048576 := by have := wKs_mem (List.getElem_mem hlt); have := unhide HW; omega
      clear hmem
      go_wp2_with fail
      refine (unhide HI ks[k] hsm P ⟨c0, c1, c2⟩ wr (fun b hb' => Nat.lt_of_lt_of_le (unhide HP b hb') hb.size) (KRep.carry (fun b hb' => hb.block b (unhide HP b hb')) (fun _ h => h) _ _ (unhide HR)) hwk).mono ?_
      rintro e w' ⟨⟨d0, d1, d2⟩, rfl, hr, hb'⟩
      clear e0 e1 e2
      obtain ⟨f, hrow, hf⟩ := HL.out
      have hrow' := hrow.of_block (hb'.block _ hrow.lt)
      have HR' := hide hr; have HB' := hide hb'
      have z0 := hrow'.frozen (k * 3)
      have z1 := hrow'.frozen (k * 3 + 1)
      have z2 := hrow'.frozen (k * 3 + 2)
      have y0 := hrow'.cell (i := k * 3) (by omega)
      have y1 := hrow'.cell (i := k * 3 + 1) (by omega)
      have y2 := hrow'.cell (i := k * 3 + 2) (by omega)
      obtain ⟨g0, -, ⟨a3, cap3, g3, -⟩, a4, cap4, g4, -⟩ := hr.open
      simp only at g0 g3 g4
      subst g0 g3 g4
      clear hf hrow hrow' hr hb'
      go_wp2_with fail
      go_roundw
      case rel =>
        have hst := FLaid.step hlt HL.out HB'.out _ HR'.out
        have hb3 := hb.trans (HB'.out.mono hb.size)
        refine ⟨k + 1, by omega, by go_num, hst, ?_⟩
        exact ((hb3.setCell (Nat.le_refl _) _).setCell (Nat.le_refl _) _).setCell (Nat.le_refl _) _
      case measure => simp [intOf]; omega
    · go_wp2_with fail
      go_ret
      obtain rfl : k = ks.length := by omega
      exact ⟨w.heap.size, rfl, HL.out.done.1, HL.out.done.2, hb⟩

set_option maxHeartbeats 400000 in
theorem toKindF_step (n : Nat) (IH : ToFSaid n) : ToFSaid (n + 1) := by
  intro t hn P c w hP hrep hwt
  obtain ⟨c0, c1, c2⟩ := c
  obtain ⟨e0, hi0, hns, a, cap, e4, hlen, hks⟩ := hrep.open
  simp only at e0 e4 hns
  subst e0 e4
  have hw : wKd t = wS t.names + wKs t.kids := by obtain ⟨s, ns, ks⟩ := t; rfl
  have hl1 := wS_len t.names
  have hl2 := wKs_len t.kids
  have hnl : t.names.length ≤ 1048576 := by omega
  have hkl : t.kids.length ≤ 1048576 := by omega
  have hkw : wKs t.kids ≤ 1048576 := by omega
  clear hl1 hl2 hw hwt
  have HP := hide hP; have HK := hide hks; have HN := hide hns; have HI := hide IH; have H0 := hide hi0; have HKW := hide hkw
  clear hP hks hns IH hrep hi0 hkw
  have hbx : ∀ o o2 o3, Below w.heap.size w (((w.alloc o).alloc o2).alloc o3) := fun o o2 o3 => (((Below.refl _ _).alloc (Nat.le_refl _) o).alloc (by simp) o2).alloc (by simp; omega) o3
  have HBX := hide hbx; clear hbx
  go_enter Tryz.func8, Tryz.ntmps8
  go_wp2_with fail
  refine (toStringS_free c1 t.names _ (P := P) (fun b hb => Nat.lt_of_lt_of_le (unhide HP b hb) (unhide HBX _ _ _).size) ((unhide HN).carry (fun b hb => (unhide HBX _ _ _).block b (unhide HP b hb)) (fun _ h => h)) hnl).mono ?_
  rintro e w1 ⟨v', rfl, ⟨a', rfl⟩, hs, hb1⟩
  obtain ⟨q0, q1, q2, hsz1, hb01⟩ := kbox3 hb1
  have k0 := q0.cell (i := 2) (by omega)
  have f2 := q2.frozen 1
  have k2 := q2.cell (i := 1) (by omega)
  simp only [row3] at k0 k2
  have HS := hide hs; have HB1 := hide hb01; have Q1 := hide q1; have Q2 := hide q2
  clear hs hb1 hb01 q0 q1 q2
  go_wp2_with fail
  have q2 := (unhide Q2).set 1 (.slice a' t.names.length t.names.length)
  have q1 := (unhide Q1).setOther (a := ⟨w.heap.size + 1 + 1, 1, none⟩) (by simp) (.slice a' t.names.length t.names.length)
  have hb2 := (unhide HB1).setCell (p := ⟨w.heap.size + 1 + 1, 1, none⟩) (by simp; omega) (.slice a' t.names.length t.names.length)
  refine (toKindS_free n (unhide HI) t (by omega) P a cap _ (fun b hb => Nat.lt_of_lt_of_le (unhide HP b hb) hb2.size) hkl (unhide HKW) (fun i hi => ?_)).mono ?_
  · obtain ⟨b, o, c, h1, h2, h3, h4⟩ := unhide HK i hi
    exact ⟨b, o, c, h1, h2, h3.carry (hb2.block b (unhide HP b h2)), KRep.carry (fun b hb => hb2.block b (unhide HP b hb)) (fun _ h => h) _ _ h4⟩
  rintro e w3 ⟨bk, rfl, hbk, hrk, hb3⟩
  have hsz2 : (w1.setCell ⟨w.heap.size + 1 + 1, 1, none⟩ (.slice a' t.names.length t.names.length)).heap.size = w1.heap.size := size_setCell _ _ _
  have p1 := q1.of_block (hb3.block _ (by omega))
  have p2 := q2.of_block (hb3.block _ (by omega))
  have hb03 := hb2.trans (hb3.mono hb2.size)
  have hblk : ∀ b, w.heap.size + 3 ≤ b → b < w1.heap.size → w3.heap[b]? = w1.heap[b]? := fun b h1 h2 => by
    rw [hb3.block b (by rw [hsz2]; exact h2), Below.heap_setCell _ _ _ _ (by simp; omega)]
  have hs3 : StrsAt (fun b => (w.heap.size + 3 ≤ b ∧ b < w1.heap.size) ∧ FreeB w3 b) w3 (.slice a' t.names.length t.names.length) t.names :=
    (unhide HS).carry (fun b hb => hblk b (by have := hb.1.1; simpa using this) hb.1.2) (fun b hb => ⟨⟨by have := hb.1.1; simpa using this, hb.1.2⟩, hb.2.of_block (hblk b (by have := hb.1.1; simpa using this) hb.1.2)⟩)
  have hk3 : KRepK (fun b => (w.heap.size + 3 ≤ b ∧ b < w3.heap.size) ∧ FreeB w3 b) w3 bk 0 t.kids :=
    KRepK.carry (fun _ _ => rfl) (fun b hb => ⟨⟨by have := hb.1.1; omega, hb.1.2⟩, hb.2⟩) _ _ rfl _ hrk
  have hbk3 : (w.heap.size + 3 ≤ bk ∧ bk < w3.heap.size) ∧ FreeB w3 bk := ⟨⟨by have := hbk.1.1; omega, hbk.1.2⟩, hbk.2⟩
  have hs13 : w1.heap.size ≤ w3.heap.size := by have := hb3.size; omega
  have a0 := p1.cell (i := 0) (by omega); have a1 := p1.cell (i := 1) (by omega); have a2 := p1.cell (i := 2) (by omega)
  have b0 := p2.cell (i := 0) (by omega); have b1 := p2.cell (i := 1) (by omega); have b2 := p2.cell (i := 2) (by omega)
  have fa := p1.frozen; have fb := p2.frozen
  simp [row3] at a0 a1 a2 b0 b1 b2
  clear q1 q2 hb2 hbk hrk hblk hb3 hsz2 p1 p2 k0 k2 f2 Q1 Q2 HB1 HS HN HI HK HP HBX HKW
  have HS3 := hide hs3; have HK3 := hide hk3; have HBK3 := hide hbk3; have HB03 := hide hb03; have HS13 := hide hs13
  clear hs3 hk3 hbk3 hb03 hs13
  go_wp2_with fail
  refine bodyPost_ret (v := .agg #[.int .i64 t.sort, .slice a' t.names.length t.names.length, .slice (some ⟨bk, 0, none⟩) t.kids.length t.kids.length]) (by simp [results, Tryz.results8, go_sem, a0, a1, a2]) rfl ⟨⟨_, _, _⟩, rfl, ?_, ?_⟩
  · refine KRep.make (unhide H0) ((unhide HS3).carry (fun b hb => ?_) (fun b hb => ?_)) hlen ?_ (KRepK.carry (P := fun b => (w.heap.size + 3 ≤ b ∧ b < w3.heap.size) ∧ FreeB w3 b) (fun b hb => ?_) (fun b hb => ?_) _ _ ?_ _ (unhide HK3))
    · exact heap_set4 _ _ _ _ _ _ _ _ (by omega) (by omega)
    · have := unhide HS13; exact ⟨⟨by omega, by simp only [size_setCell]; omega⟩, hb.2.of_block (heap_set4 _ _ _ _ _ _ _ _ (by omega) (by omega))⟩
    · have := (unhide HBK3).1; exact ⟨⟨by omega, by simp only [size_setCell]; omega⟩, (unhide HBK3).2.of_block (heap_set4 _ _ _ _ _ _ _ _ (by omega) (by omega))⟩
    · exact heap_set4 _ _ _ _ _ _ _ _ (by omega) (by omega)
    · exact ⟨⟨by omega, by simp only [size_setCell]; omega⟩, hb.2.of_block (heap_set4 _ _ _ _ _ _ _ _ (by omega) (by omega))⟩
    · have := (unhide HBK3).1; exact heap_set4 _ _ _ _ _ _ _ _ (by omega) (by omega)
  · exact ((((unhide HB03).setCell (by simp; omega) _).setCell (by simp) _).setCell (by simp) _).setCell (by simp) _

theorem toKindF_all : ∀ n, ToFSaid n
  | 0 => fun t h => by omega
  | n + 1 => toKindF_step n (toKindF_all n)

theorem toKind_free (t : Kd) (P : Nat → Prop) (c : C3) (w : World) (hP : ∀ b, P b → b < w.heap.size) (hrep : KRep P w t c) (hwt : wKd t ≤ 1048576) :
    Calls Tryz.prog 8 #[.agg #[c.c0, c.c1, c.c2]] w fun e w' => ∃ c' : C3, e = .returned (.agg #[c'.c0, c'.c1, c'.c2]) ∧ KRep (NewF w w') w' t c' ∧ Below w.heap.size w w' :=
  toKindF_all (ksz t + 1) t (by omega) P c w hP hrep hwt
end Go.Proofs.YtcpfelaffclalaaGreatDoor

/- The walks of szStringS, szTree, szTreeS: what they answer, and that they turn nothing that was there. No conditions. -/

namespace Go.Proofs.YtcpfelaffclalaaGreatDoor
open Go Go.RowKit

theorem wK_take (ks : List Tr) (k : Nat) (h : k < ks.length) : wK (ks.take (k + 1)) = wK (ks.take k) + wT ks[k] + 1 := by
  induction ks generalizing k with
  | nil => simp at h
  | cons a r ih =>
    cases k with
    | zero => simp [wK]; omega
    | succ k => simp only [List.take_succ_cons, wK, List.getElem_cons_succ]; rw [ih k (by simpa using h)]; omega

/-- What szTree says of trees smaller than n. -/
def SzSaid (n : Nat) : Prop := ∀ (t : Tr), tsz t < n → ∀ (P : Nat → Prop) (c : C5) (left : Int) (w : World), (∀ b, P b → b < w.heap.size) → Rep P w t c → 0 ≤ left → left ≤ 1048576 →
    Calls Tryz.prog 11 #[.agg #[c.c0, c.c1, c.c2, c.c3, c.c4], .int .i64 left] w fun e w' => ∃ r : Int, e = .returned (.int .i64 r) ∧ (r = -1 ∨ (0 ≤ r ∧ r + wT t = left)) ∧ Below w.heap.size w w'

set_option maxHeartbeats 400000 in
theorem szTreeS_any (n : Nat) (IH : SzSaid n) (t : Tr) (hn : tsz t ≤ n) (P : Nat → Prop) (a : Option Addr) (cap : Nat) (left : Int) (w : World) (hP : ∀ b, P b → b < w.heap.size)
    (hlen : t.kids.length ≤ 9223372036854775807)
    (hc : ∀ i, (hi : i < t.kids.length) → ∃ b o c, a = some ⟨b, o, none⟩ ∧ P b ∧ C5.at w b (o + i * 5) c ∧ Rep P w t.kids[i] c) (h0 : 0 ≤ left) (h1 : left ≤ 1048576) :
    Calls Tryz.prog 32 #[.slice a t.kids.length cap, .int .i64 left] w fun e w' => ∃ r : Int, e = .returned (.int .i64 r) ∧ (r = -1 ∨ (0 ≤ r ∧ r + wK t.kids = left)) ∧ Below w.heap.size w w' := by
  generalize hks : t.kids = ks at *
  have HK := hide hks; clear hks
  have HC := hide hc; clear hc
  have HP := hide hP; clear hP
  have HI := hide IH; clear IH
  by_cases hneg : left - ks.length < 0
  · go_enter Tryz.func32, Tryz.ntmps32
    go_wp2_with fail
    go_ret
    exact ⟨_, rfl, Or.inl rfl, Below.refl _ _⟩
  · go_enter Tryz.func32, Tryz.ntmps32
    go_wp2_with fail
    go_loopw [1, 5] (fun l i wr => ∃ (k : Nat) (q : Int), k ≤ ks.length ∧ i = .int .i64 k ∧ l = .int .i64 q ∧ 0 ≤ q ∧ q ≤ 1048576 ∧ Hid (q + ks.length + wK (ks.take k) = left + k) ∧ Below w.heap.size w wr) (fun _ i _ => ks.length - (intOf i).toNat)
    case atStart => exact ⟨0, _, Nat.zero_le _, rfl, rfl, by omega, by omega, by simp [Hid, wK], Below.refl _ _⟩
    case round =>
      obtain ⟨k, q, hk, rfl, rfl, hq0, hq1, HQ, hb⟩ := hrel
      by_cases hlt : k < ks.length
      · obtain ⟨b, o, c, rfl, hpb, hcell, hrep⟩ := unhide HC k hlt
        have hcell' := hcell.carry (hb.block b (unhide HP b hpb))
        obtain ⟨c0, c1, c2, c3, c4⟩ := c
        obtain ⟨e0, e1, e2, e3, e4⟩ := hcell'
        simp only at e0 e1 e2 e3 e4
        have HR := hide hrep; clear hrep hcell hpb
        have hmem : ks[k] ∈ t.kids := by rw [unhide HK]; exact List.getElem_mem hlt
        have hsm : tsz ks[k] < n := by have := tsz_kid hmem; omega
        have hts := wK_take ks k hlt
        have HT := hide hts; clear hts hmem
        go_wp2_with fail
        refine (unhide HI ks[k] hsm P ⟨c0, c1, c2, c3, c4⟩ q wr (fun b hb' => Nat.lt_of_lt_of_le (unhide HP b hb') hb.size) (Rep.carry (fun b hb' => hb.block b (unhide HP b hb')) (fun _ h => h) _ _ (unhide HR)) hq0 hq1).mono ?_
        rintro e w' ⟨r, rfl, hr, hb'⟩
        have hb2 := hb.trans (hb'.mono hb.size)
        clear hb'
        rcases hr with rfl | ⟨hr0, hr1⟩
        · go_wp2_with fail
          go_ret
          exact ⟨_, rfl, Or.inl rfl, hb2⟩
        · have HR1 := hide hr1; clear hr1
          have hr2 : r ≤ 1048576 := by have := unhide HR1; omega
          go_wp2_with fail
          go_roundw
          case rel => exact ⟨k + 1, _, by omega, by go_num, rfl, by omega, by omega, by have := HQ.out; have := unhide HT; have := unhide HR1; show _ = _; omega, hb2⟩
          case measure => simp [intOf]; omega
      · go_wp2_with fail
        go_ret
        refine ⟨_, rfl, Or.inr ⟨hq0, ?_⟩, hb⟩
        have := HQ.out
        rw [List.take_of_length_le (by omega)] at this
        omega

set_option maxHeartbeats 400000 in
theorem szTree_step (n : Nat) (IH : SzSaid n) : SzSaid (n + 1) := by
  intro t hn P c left w hP hrep h0 h1
  obtain ⟨c0, c1, c2, c3, c4⟩ := c
  obtain ⟨e0, e1, e2, -, -, htx, hns, a, cap, e4, hlen, hks⟩ := hrep.open
  simp only at e0 e1 e2 e4 hns
  subst e0 e1 e2 e4
  have hwt : wT t = t.text.size + wS t.names + wK t.kids := by obtain ⟨s, n, tx, ns, ks⟩ := t; rfl
  have HW := hide hwt; have HP := hide hP; have HK := hide hks; have HN := hide hns; have HI := hide IH; have HR := hide hrep
  clear hwt hP hks hns IH hrep
  have hbx : ∀ o, Below w.heap.size w (w.alloc o) := fun o => (Below.refl _ _).alloc (Nat.le_refl _) o
  by_cases hneg : left - t.text.size < 0
  · go_enter Tryz.func11, Tryz.ntmps11
    go_wp2_with fail
    go_ret
    exact ⟨_, rfl, Or.inl rfl, hbx _⟩
  · go_enter Tryz.func11, Tryz.ntmps11
    go_wp2_with fail
    refine (szStringS_any _ t.names _ _ ((unhide HN).carry (P := P) (Q := P) (fun b hb => (hbx _).block b (unhide HP b hb)) (fun _ h => h)) (by omega) (by omega)).mono ?_
    rintro e w' ⟨r, rfl, hr, rfl⟩
    rcases hr with rfl | ⟨hr0, hr1⟩
    · go_wp2_with fail
      go_ret
      exact ⟨_, rfl, Or.inl rfl, hbx _⟩
    · have HR1 := hide hr1; clear hr1
      have hr2 : r ≤ 1048576 := by have := unhide HR1; omega
      go_wp2_with fail
      refine (szTreeS_any n (unhide HI) t (by omega) P a cap r _ (fun b hb => Nat.lt_of_lt_of_le (unhide HP b hb) (hbx _).size) hlen (fun i hi => ?_) hr0 hr2).mono ?_
      · obtain ⟨b, o, c, h1, h2, h3, h4⟩ := unhide HK i hi
        exact ⟨b, o, c, h1, h2, h3.carry ((hbx _).block b (unhide HP b h2)), Rep.carry (fun b hb => (hbx _).block b (unhide HP b hb)) (fun _ h => h) _ _ h4⟩
      rintro e w' ⟨r', rfl, hr', hb'⟩
      have hb2 := (hbx _).trans (hb'.mono (hbx _).size)
      rcases hr' with rfl | ⟨hr0', hr1'⟩
      · go_wp2_with fail
        go_ret
        exact ⟨_, rfl, Or.inl rfl, hb2⟩
      · have HR2 := hide hr1'; clear hr1'
        go_wp2_with fail
        go_ret
        exact ⟨_, rfl, Or.inr ⟨hr0', by have := unhide HR1; have := unhide HR2; have := unhide HW; omega⟩, hb2⟩

theorem szTree_all : ∀ n, SzSaid n
  | 0 => fun t h => by omega
  | n + 1 => szTree_step n (szTree_all n)

theorem szTree_any (t : Tr) (P : Nat → Prop) (c : C5) (left : Int) (w : World) (hP : ∀ b, P b → b < w.heap.size) (hrep : Rep P w t c) (h0 : 0 ≤ left) (h1 : left ≤ 1048576) :
    Calls Tryz.prog 11 #[.agg #[c.c0, c.c1, c.c2, c.c3, c.c4], .int .i64 left] w fun e w' => ∃ r : Int, e = .returned (.int .i64 r) ∧ (r = -1 ∨ (0 ≤ r ∧ r + wT t = left)) ∧ Below w.heap.size w w' :=
  szTree_all (tsz t + 1) t (by omega) P c left w hP hrep h0 h1
end Go.Proofs.YtcpfelaffclalaaGreatDoor

/- The walks of szKind, szKindS: what they answer, and that they turn nothing that was there. No conditions. -/

namespace Go.Proofs.YtcpfelaffclalaaGreatDoor
open Go Go.RowKit

/-- What szKind says of schemas smaller than n. -/
def SzKSaid (n : Nat) : Prop := ∀ (t : Kd), ksz t < n → ∀ (P : Nat → Prop) (c : C3) (left : Int) (w : World), (∀ b, P b → b < w.heap.size) → KRep P w t c → 0 ≤ left → left ≤ 1048576 →
    Calls Tryz.prog 6 #[.agg #[c.c0, c.c1, c.c2], .int .i64 left] w fun e w' => ∃ r : Int, e = .returned (.int .i64 r) ∧ (r = -1 ∨ (0 ≤ r ∧ r + wKd t = left)) ∧ Below w.heap.size w w'

set_option maxHeartbeats 400000 in
theorem szKindS_any (n : Nat) (IH : SzKSaid n) (t : Kd) (hn : ksz t ≤ n) (P : Nat → Prop) (a : Option Addr) (cap : Nat) (left : Int) (w : World) (hP : ∀ b, P b → b < w.heap.size)
    (hlen : t.kids.length ≤ 9223372036854775807)
    (hc : ∀ i, (hi : i < t.kids.length) → ∃ b o c, a = some ⟨b, o, none⟩ ∧ P b ∧ C3.at w b (o + i * 3) c ∧ KRep P w t.kids[i] c) (h0 : 0 ≤ left) (h1 : left ≤ 1048576) :
    Calls Tryz.prog 23 #[.slice a t.kids.length cap, .int .i64 left] w fun e w' => ∃ r : Int, e = .returned (.int .i64 r) ∧ (r = -1 ∨ (0 ≤ r ∧ r + wKs t.kids = left)) ∧ Below w.heap.size w w' := by
  generalize hks : t.kids = ks at *
  have HK := hide hks; clear hks
  have HC := hide hc; clear hc
  have HP := hide hP; clear hP
  have HI := hide IH; clear IH
  by_cases hneg : left - ks.length < 0
  · go_enter Tryz.func23, Tryz.ntmps23
    go_wp2_with fail
    go_ret
    exact ⟨_, rfl, Or.inl rfl, Below.refl _ _⟩
  · go_enter Tryz.func23, Tryz.ntmps23
    go_wp2_with fail
    go_loopw [1, 5] (fun l i wr => ∃ (k : Nat) (q : Int), k ≤ ks.length ∧ i = .int .i64 k ∧ l = .int .i64 q ∧ 0 ≤ q ∧ q ≤ 1048576 ∧ Hid (q + ks.length + wKs (ks.take k) = left + k) ∧ Below w.heap.size w wr) (fun _ i _ => ks.length - (intOf i).toNat)
    case atStart => exact ⟨0, _, Nat.zero_le _, rfl, rfl, by omega, by omega, by simp [Hid, wKs], Below.refl _ _⟩
    case round =>
      obtain ⟨k, q, hk, rfl, rfl, hq0, hq1, HQ, hb⟩ := hrel
      by_cases hlt : k < ks.length
      · obtain ⟨b, o, c, rfl, hpb, hcell, hrep⟩ := unhide HC k hlt
        have hcell' := hcell.carry (hb.block b (unhide HP b hpb))
        obtain ⟨c0, c1, c2⟩ := c
        obtain ⟨e0, e1, e2⟩ := hcell'
        simp only at e0 e1 e2
        have HR := hide hrep; clear hrep hcell hpb
        have hmem : ks[k] ∈ t.kids := by rw [unhide HK]; exact List.getElem_mem hlt
        have hsm : ksz ks[k] < n := by have := ksz_kid hmem; omega
        have hts := wKs_take ks k hlt
        have HT := hide hts; clear hts hmem
        go_wp2_with fail
        refine (unhide HI ks[k] hsm P ⟨c0, c1, c2⟩ q wr (fun b hb' => Nat.lt_of_lt_of_le (unhide HP b hb') hb.size) (KRep.carry (fun b hb' => hb.block b (unhide HP b hb')) (fun _ h => h) _ _ (unhide HR)) hq0 hq1).mono ?_
        rintro e w' ⟨r, rfl, hr, hb'⟩
        have hb2 := hb.trans (hb'.mono hb.size)
        clear hb'
        rcases hr with rfl | ⟨hr0, hr1⟩
        · go_wp2_with fail
          go_ret
          exact ⟨_, rfl, Or.inl rfl, hb2⟩
        · have HR1 := hide hr1; clear hr1
          have hr2 : r ≤ 1048576 := by have := unhide HR1; omega
          go_wp2_with fail
          go_roundw
          case rel => exact ⟨k + 1, _, by omega, by go_num, rfl, by omega, by omega, by have := HQ.out; have := unhide HT; have := unhide HR1; show _ = _; omega, hb2⟩
          case measure => simp [intOf]; omega
      · go_wp2_with fail
        go_ret
        refine ⟨_, rfl, Or.inr ⟨hq0, ?_⟩, hb⟩
        have := HQ.out
        rw [List.take_of_length_le (by omega)] at this
        omega

set_option maxHeartbeats 400000 in
theorem szKind_step (n : Nat) (IH : SzKSaid n) : SzKSaid (n + 1) := by
  intro t hn P c left w hP hrep h0 h1
  obtain ⟨c0, c1, c2⟩ := c
  obtain ⟨e0, -, hns, a, cap, e4, hlen, hks⟩ := hrep.open
  simp only at e0 e4 hns
  subst e0 e4
  have hwt : wKd t = wS t.names + wKs t.kids := by obtain ⟨s, ns, ks⟩ := t; rfl
  have HW := hide hwt; have HP := hide hP; have HK := hide hks; have HN := hide hns; have HI := hide IH; have HR := hide hrep
  clear hwt hP hks hns IH hrep
  have hbx : ∀ o, Below w.heap.size w (w.alloc o) := fun o => (Below.refl _ _).alloc (Nat.le_refl _) o
  go_enter Tryz.func6, Tryz.ntmps6
  go_wp2_with fail
  refine (szStringS_any _ t.names _ _ ((unhide HN).carry (P := P) (Q := P) (fun b hb => (hbx _).block b (unhide HP b hb)) (fun _ h => h)) (by omega) (by omega)).mono ?_
  rintro e w' ⟨r, rfl, hr, rfl⟩
  rcases hr with rfl | ⟨hr0, hr1⟩
  · go_wp2_with fail
    go_ret
    exact ⟨_, rfl, Or.inl rfl, hbx _⟩
  · have HR1 := hide hr1; clear hr1
    have hr2 : r ≤ 1048576 := by have := unhide HR1; omega
    go_wp2_with fail
    refine (szKindS_any n (unhide HI) t (by omega) P a cap r _ (fun b hb => Nat.lt_of_lt_of_le (unhide HP b hb) (hbx _).size) hlen (fun i hi => ?_) hr0 hr2).mono ?_
    · obtain ⟨b, o, c, h1, h2, h3, h4⟩ := unhide HK i hi
      exact ⟨b, o, c, h1, h2, h3.carry ((hbx _).block b (unhide HP b h2)), KRep.carry (fun b hb => (hbx _).block b (unhide HP b hb)) (fun _ h => h) _ _ h4⟩
    rintro e w' ⟨r', rfl, hr', hb'⟩
    have hb2 := (hbx _).trans (hb'.mono (hbx _).size)
    rcases hr' with rfl | ⟨hr0', hr1'⟩
    · go_wp2_with fail
      go_ret
      exact ⟨_, rfl, Or.inl rfl, hb2⟩
    · have HR2 := hide hr1'; clear hr1'
      go_wp2_with fail
      go_ret
      exact ⟨_, rfl, Or.inr ⟨hr0', by have := unhide HR1; have := unhide HR2; have := unhide HW; omega⟩, hb2⟩

theorem szKind_all : ∀ n, SzKSaid n
  | 0 => fun t h => by omega
  | n + 1 => szKind_step n (szKind_all n)

theorem szKind_any (t : Kd) (P : Nat → Prop) (c : C3) (left : Int) (w : World) (hP : ∀ b, P b → b < w.heap.size) (hrep : KRep P w t c) (h0 : 0 ≤ left) (h1 : left ≤ 1048576) :
    Calls Tryz.prog 6 #[.agg #[c.c0, c.c1, c.c2], .int .i64 left] w fun e w' => ∃ r : Int, e = .returned (.int .i64 r) ∧ (r = -1 ∨ (0 ≤ r ∧ r + wKd t = left)) ∧ Below w.heap.size w w' :=
  szKind_all (ksz t + 1) t (by omega) P c left w hP hrep h0 h1
end Go.Proofs.YtcpfelaffclalaaGreatDoor
