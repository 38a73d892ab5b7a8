/- The walks of szKind, szKindS: what they answer, and that they turn nothing that was there. No conditions. -/
import Derived.Test.YtcpfelaffclalaaGreatDoorPart10
import Derived.Test.YtcpfelaffclalaaGreatDoorPart00
namespace Go.Proofs.YtcpfelaffclalaaGreatDoor
open Go Go.RowKit

/-- What szKind says of schemas smaller than n. -/
def SzKSaid (n : Nat) : Prop := ∀ (t : Kd), ksz t < n → ∀ (P : Nat → Prop) (c : C3) (left : Int) (w : World), (∀ b, P b → b < w.heap.size) → KRep P w t c → 0 ≤ left → left ≤ 1048576 →
    Calls Tryz.prog 6 #[.agg #[c.c0, c.c1, c.c2], .int .i64 left] w fun e w' => ∃ r : Int, e = .returned (.int .i64 r) ∧ (r = -1 ∨ (0 ≤ r ∧ r + wKd t = left)) ∧ Below w.heap.size w w'

set_option maxHeartbeats 400000 in
theorem szKindS_any (n : Nat) (IH : SzKSaid n) (t : Kd) (hn : ksz t ≤ n) (P : Nat → Prop) (a : Option Addr) (cap : Nat) (left : Int) (w : World) (hP : ∀ b, P b → b < w.heap.size)
    (hlen : t.kids.length ≤ 9223372036854775807)
    (hc : ∀ i, (hi : i < t.kids.length) → ∃ b o c, a = some ⟨b, o, none⟩ ∧ P b ∧ C3.at w b (o + i * 3) c ∧ KRep P w t.kids[i] c) (h0 : 0 ≤ left) (h1 : left ≤ 1048576) :
    Calls Tryz.prog 23 #[.slice a t.kids.length cap, .int .i64 left] w fun e w' => ∃ r : Int, e = .returned (.int .i64 r) ∧ (r = -1 ∨ (0 ≤ r ∧ r + wKs t.kids = left)) ∧ Below w.heap.size w w' := by
  generalize hks : t.kids = ks at *
  have HK := hide hks; clear hks
  have HC := hide hc; clear hc
  have HP := hide hP; clear hP
  have HI := hide IH; clear IH
  by_cases hneg : left - ks.length < 0
  · go_enter Tryz.func23, Tryz.ntmps23
    go_wp2_with fail
    go_ret
    exact ⟨_, rfl, Or.inl rfl, Below.refl _ _⟩
  · go_enter Tryz.func23, Tryz.ntmps23
    go_wp2_with fail
    go_loopw [1, 5] (fun l i wr => ∃ (k : Nat) (q : Int), k ≤ ks.length ∧ i = .int .i64 k ∧ l = .int .i64 q ∧ 0 ≤ q ∧ q ≤ 1048576 ∧ Hid (q + ks.length + wKs (ks.take k) = left + k) ∧ Below w.heap.size w wr) (fun _ i _ => ks.length - (intOf i).toNat)
    case atStart => exact ⟨0, _, Nat.zero_le _, rfl, rfl, by omega, by omega, by simp [Hid, wKs], Below.refl _ _⟩
    case round =>
      obtain ⟨k, q, hk, rfl, rfl, hq0, hq1, HQ, hb⟩ := hrel
      by_cases hlt : k < ks.length
      · obtain ⟨b, o, c, rfl, hpb, hcell, hrep⟩ := unhide HC k hlt
        have hcell' := hcell.carry (hb.block b (unhide HP b hpb))
        obtain ⟨c0, c1, c2⟩ := c
        obtain ⟨e0, e1, e2⟩ := hcell'
        simp only at e0 e1 e2
        have HR := hide hrep; clear hrep hcell hpb
        have hmem : ks[k] ∈ t.kids := by rw [unhide HK]; exact List.getElem_mem hlt
        have hsm : ksz ks[k] < n := by have := ksz_kid hmem; omega
        have hts := wKs_take ks k hlt
        have HT := hide hts; clear hts hmem
        go_wp2_with fail
        refine (unhide HI ks[k] hsm P ⟨c0, c1, c2⟩ q wr (fun b hb' => Nat.lt_of_lt_of_le (unhide HP b hb') hb.size) (KRep.carry (fun b hb' => hb.block b (unhide HP b hb')) (fun _ h => h) _ _ (unhide HR)) hq0 hq1).mono ?_
        rintro e w' ⟨r, rfl, hr, hb'⟩
        have hb2 := hb.trans (hb'.mono hb.size)
        clear hb'
        rcases hr with rfl | ⟨hr0, hr1⟩
        · go_wp2_with fail
          go_ret
          exact ⟨_, rfl, Or.inl rfl, hb2⟩
        · have HR1 := hide hr1; clear hr1
          have hr2 : r ≤ 1048576 := by have := unhide HR1; omega
          go_wp2_with fail
          go_roundw
          case rel => exact ⟨k + 1, _, by omega, by go_num, rfl, by omega, by omega, by have := HQ.out; have := unhide HT; have := unhide HR1; show _ = _; omega, hb2⟩
          case measure => simp [intOf]; omega
      · go_wp2_with fail
        go_ret
        refine ⟨_, rfl, Or.inr ⟨hq0, ?_⟩, hb⟩
        have := HQ.out
        rw [List.take_of_length_le (by omega)] at this
        omega

set_option maxHeartbeats 400000 in
theorem szKind_step (n : Nat) (IH : SzKSaid n) : SzKSaid (n + 1) := by
  intro t hn P c left w hP hrep h0 h1
  obtain ⟨c0, c1, c2⟩ := c
  obtain ⟨e0, -, hns, a, cap, e4, hlen, hks⟩ := hrep.open
  simp only at e0 e4 hns
  subst e0 e4
  have hwt : wKd t = wS t.names + wKs t.kids := by obtain ⟨s, ns, ks⟩ := t; rfl
  have HW := hide hwt; have HP := hide hP; have HK := hide hks; have HN := hide hns; have HI := hide IH; have HR := hide hrep
  clear hwt hP hks hns IH hrep
  have hbx : ∀ o, Below w.heap.size w (w.alloc o) := fun o => (Below.refl _ _).alloc (Nat.le_refl _) o
  go_enter Tryz.func6, Tryz.ntmps6
  go_wp2_with fail
  refine (szStringS_any _ t.names _ _ ((unhide HN).carry (P := P) (Q := P) (fun b hb => (hbx _).block b (unhide HP b hb)) (fun _ h => h)) (by omega) (by omega)).mono ?_
  rintro e w' ⟨r, rfl, hr, rfl⟩
  rcases hr with rfl | ⟨hr0, hr1⟩
  · go_wp2_with fail
    go_ret
    exact ⟨_, rfl, Or.inl rfl, hbx _⟩
  · have HR1 := hide hr1; clear hr1
    have hr2 : r ≤ 1048576 := by have := unhide HR1; omega
    go_wp2_with fail
    refine (szKindS_any n (unhide HI) t (by omega) P a cap r _ (fun b hb => Nat.lt_of_lt_of_le (unhide HP b hb) (hbx _).size) hlen (fun i hi => ?_) hr0 hr2).mono ?_
    · obtain ⟨b, o, c, h1, h2, h3, h4⟩ := unhide HK i hi
      exact ⟨b, o, c, h1, h2, h3.carry ((hbx _).block b (unhide HP b h2)), KRep.carry (fun b hb => (hbx _).block b (unhide HP b hb)) (fun _ h => h) _ _ h4⟩
    rintro e w' ⟨r', rfl, hr', hb'⟩
    have hb2 := (hbx _).trans (hb'.mono (hbx _).size)
    rcases hr' with rfl | ⟨hr0', hr1'⟩
    · go_wp2_with fail
      go_ret
      exact ⟨_, rfl, Or.inl rfl, hb2⟩
    · have HR2 := hide hr1'; clear hr1'
      go_wp2_with fail
      go_ret
      exact ⟨_, rfl, Or.inr ⟨hr0', by have := unhide HR1; have := unhide HR2; have := unhide HW; omega⟩, hb2⟩

theorem szKind_all : ∀ n, SzKSaid n
  | 0 => fun t h => by omega
  | n + 1 => szKind_step n (szKind_all n)

theorem szKind_any (t : Kd) (P : Nat → Prop) (c : C3) (left : Int) (w : World) (hP : ∀ b, P b → b < w.heap.size) (hrep : KRep P w t c) (h0 : 0 ≤ left) (h1 : left ≤ 1048576) :
    Calls Tryz.prog 6 #[.agg #[c.c0, c.c1, c.c2], .int .i64 left] w fun e w' => ∃ r : Int, e = .returned (.int .i64 r) ∧ (r = -1 ∨ (0 ≤ r ∧ r + wKd t = left)) ∧ Below w.heap.size w w' :=
  szKind_all (ksz t + 1) t (by omega) P c left w hP hrep h0 h1
end Go.Proofs.YtcpfelaffclalaaGreatDoor

/- The walks of toKind, toKindS: they make a new copy of a schema, and turn nothing that was there. No conditions but the schema's weight, at most 2^20. -/

namespace Go.Proofs.YtcpfelaffclalaaGreatDoor
open Go Go.RowKit

/-- The three zero cells of a schema. -/
def z3 : Array Value := #[.int .i64 0, .slice none 0 0, .slice none 0 0]

theorem infoKind : (Tryz.prog.info? 30).map (fun i => (i.zero, i.size, i.bytes)) = some (some (.agg z3), 3, 56) := by kernel_rfl

theorem run_make_kind (n : Nat) (h : n ≤ 1048576) (w : World) :
    (Instr.makeSlice 28 (.int .i64 (n : Int)) (.int .i64 (n : Int))).run Tryz.prog w = .ok (.slice (some ⟨w.heap.size, 0, none⟩) n n) (w.alloc (.cells (madeCells z3 (n * 3)) 30)) := by
  obtain ⟨i, hi, he⟩ : ∃ i, Tryz.prog.info? 30 = some i ∧ (i.zero, i.size, i.bytes) = (some (.agg z3), 3, 56) := by
    have := infoKind
    cases h : Tryz.prog.info? 30 with
    | none => rw [h] at this; simp at this
    | some i => rw [h] at this; exact ⟨i, rfl, by simpa using this⟩
  simp only [Prod.mk.injEq] at he
  obtain ⟨e1, e2, e3⟩ := he
  have := run_make (P := Tryz.prog) w 28 30 i (.agg z3) Tryz.underlying28 hi e1 .i64 .i64 n n (by omega) (by omega) (by rw [e3]; omega) (by omega)
  rw [this, e2]
  simp [Value.cells]

def ToKSaid (n : Nat) : Prop := ∀ (t : Kd), ksz t < n → ∀ (P : Nat → Prop) (c : C3) (w : World), (∀ b, P b → b < w.heap.size) → KRep P w t c → wKd t ≤ 1048576 →
    Calls Tryz.prog 8 #[.agg #[c.c0, c.c1, c.c2]] w fun e w' => ∃ c' : C3, e = .returned (.agg #[c'.c0, c'.c1, c'.c2]) ∧ KRep (New w w') w' t c' ∧ Below w.heap.size w w'

/-- What the loop of toKindS has laid after k rounds: the row, and the schemas that its first cells are. -/
def KLaid (w wr : World) (ks : List Kd) (k : Nat) : Prop :=
  ∃ f, wr.rowIs w.heap.size 30 (ks.length * 3) f ∧ ∀ j, j < k → (hj : j < ks.length) → ∃ c : C3, f (j * 3) = c.c0 ∧ f (j * 3 + 1) = c.c1 ∧ f (j * 3 + 2) = c.c2 ∧
    KRep (fun b => w.heap.size + 1 ≤ b ∧ b < wr.heap.size) wr ks[j] c

theorem heap_set3 (w : World) (b o : Nat) (c0 c1 c2 : Value) (k : Nat) (h : k ≠ b) :
    (((w.setCell ⟨b, o, none⟩ c0).setCell ⟨b, o + 1, none⟩ c1).setCell ⟨b, o + 2, none⟩ c2).heap[k]? = w.heap[k]? := by
  rw [Below.heap_setCell _ _ _ _ h, Below.heap_setCell _ _ _ _ h, Below.heap_setCell _ _ _ _ h]

theorem heap_set4 (w : World) (b b2 : Nat) (v c0 c1 c2 : Value) (k : Nat) (h : k ≠ b) (h2 : k ≠ b2) :
    ((((w.setCell ⟨b2, 2, none⟩ v).setCell ⟨b, 0, none⟩ c0).setCell ⟨b, 1, none⟩ c1).setCell ⟨b, 2, none⟩ c2).heap[k]? = w.heap[k]? := by
  rw [Below.heap_setCell _ _ _ _ h, Below.heap_setCell _ _ _ _ h, Below.heap_setCell _ _ _ _ h, Below.heap_setCell _ _ _ _ h2]

theorem KLaid.step {w wr w' : World} {ks : List Kd} {k : Nat} (hlt : k < ks.length) (hL : KLaid w wr ks k) (hb' : Below wr.heap.size wr w') (c : C3) (hr : KRep (New wr w') w' ks[k] c) :
    KLaid w (((w'.setCell ⟨w.heap.size, k * 3, none⟩ c.c0).setCell ⟨w.heap.size, k * 3 + 1, none⟩ c.c1).setCell ⟨w.heap.size, k * 3 + 2, none⟩ c.c2) ks (k + 1) := by
  obtain ⟨f, hrow, hf⟩ := hL
  have hlt0 := hrow.lt
  have hrow' := hrow.of_block (hb'.block _ hrow.lt)
  have hs := hb'.size
  refine ⟨_, ((hrow'.set (k * 3) c.c0).set (k * 3 + 1) c.c1).set (k * 3 + 2) c.c2, fun j hj hjl => ?_⟩
  by_cases e : j = k
  · subst e
    refine ⟨c, by simp, by simp, by simp, ?_⟩
    refine KRep.carry (fun b hb => heap_set3 _ _ _ _ _ _ _ (by have := hb.1; omega)) (fun b hb => ?_) _ _ hr
    simp only [size_setCell]
    have := hb.1; have := hb.2
    omega
  · obtain ⟨d, g0, g1, g2, hd⟩ := hf j (by omega) hjl
    refine ⟨d, ?_, ?_, ?_, ?_⟩
    · repeat rw [if_neg (by omega)]
      exact g0
    · repeat rw [if_neg (by omega)]
      exact g1
    · repeat rw [if_neg (by omega)]
      exact g2
    · refine KRep.carry (fun b hb => ?_) (fun b hb => ?_) _ _ hd
      · rw [heap_set3 _ _ _ _ _ _ _ (by omega), hb'.block b hb.2]
      · simp only [size_setCell]; omega

theorem KLaid.done {w wr : World} {ks : List Kd} (hL : KLaid w wr ks ks.length) : New w wr w.heap.size ∧ KRepK (New w wr) wr w.heap.size 0 ks := by
  obtain ⟨f, hrow, hf⟩ := hL
  refine ⟨⟨Nat.le_refl _, hrow.lt⟩, KRepK.mk fun i hi => ?_⟩
  obtain ⟨d, g0, g1, g2, hd⟩ := hf i hi hi
  refine ⟨d, ?_, KRep.carry (fun _ _ => rfl) (fun b hb => ⟨by omega, hb.2⟩) _ _ hd⟩
  simp only [Nat.zero_add, C3.at]
  rw [hrow.cell (i := i * 3) (by omega), hrow.cell (i := i * 3 + 1) (by omega), hrow.cell (i := i * 3 + 2) (by omega), g0, g1, g2]
  exact ⟨rfl, rfl, rfl⟩

set_option maxHeartbeats 400000 in
theorem toKindS_any (n : Nat) (IH : ToKSaid n) (t : Kd) (hn : ksz t ≤ n) (P : Nat → Prop) (a : Option Addr) (cap : Nat) (w : World) (hP : ∀ b, P b → b < w.heap.size)
    (hlen : t.kids.length ≤ 1048576) (hwt : wKs t.kids ≤ 1048576)
    (hc : ∀ i, (hi : i < t.kids.length) → ∃ b o c, a = some ⟨b, o, none⟩ ∧ P b ∧ C3.at w b (o + i * 3) c ∧ KRep P w t.kids[i] c) :
    Calls Tryz.prog 27 #[.slice a t.kids.length cap] w fun e w' => ∃ b, e = .returned (.slice (some ⟨b, 0, none⟩) t.kids.length t.kids.length) ∧ New w w' b ∧ KRepK (New w w') w' b 0 t.kids ∧ Below w.heap.size w w' := by
  generalize hks : t.kids = ks at *
  have HK := hide hks; clear hks
  have HC := hide hc; clear hc
  have HP := hide hP; clear hP
  have HI := hide IH; clear IH
  have HW := hide hwt; clear hwt
  have hmk := run_make_kind ks.length hlen
  go_enter Tryz.func27, Tryz.ntmps27
  go_wp2_with fail
  clear hmk
  go_loopw [4] (fun i wr => ∃ (k : Nat), k ≤ ks.length ∧ i = .int .i64 k ∧ Hid (KLaid w wr ks k) ∧ Below w.heap.size w wr) (fun i _ => ks.length - (intOf i).toNat)
  case atStart =>
    have hrow := World.rowIs_alloc w (madeCells z3 (ks.length * 3)) 30 (fun i => (madeCells z3 (ks.length * 3))[i]?.getD undef) (fun i hi => by simp [hi])
    rw [size_madeCells] at hrow
    exact ⟨0, Nat.zero_le _, rfl, hide ⟨_, hrow, fun j hj => by omega⟩, (Below.refl _ _).alloc (Nat.le_refl _) _⟩
  case round =>
    obtain ⟨k, hk, rfl, HL, hb⟩ := hrel
    by_cases hlt : k < ks.length
    · obtain ⟨b, o, c, rfl, hpb, hcell, hrep⟩ := unhide HC k hlt
      have hcell' := hcell.carry (hb.block b (unhide HP b hpb))
      obtain ⟨c0, c1, c2⟩ := c
      obtain ⟨e0, e1, e2⟩ := hcell'
      simp only at e0 e1 e2
      have HR := hide hrep; clear hrep hcell hpb
      have hmem : ks[k] ∈ t.kids := by rw [unhide HK]; exact List.getElem_mem hlt
      have hsm : ksz ks[k] < n := by have := ksz_kid hmem; omega
      have hwk : wKd ks[k] ≤ 1048576 := by have := wKs_mem (List.getElem_mem hlt); have := unhide HW; omega
      clear hmem
      go_wp2_with fail
      refine (unhide HI ks[k] hsm P ⟨c0, c1, c2⟩ wr (fun b hb' => Nat.lt_of_lt_of_le (unhide HP b hb') hb.size) (KRep.carry (fun b hb' => hb.block b (unhide HP b hb')) (fun _ h => h) _ _ (unhide HR)) hwk).mono ?_
      rintro e w' ⟨⟨d0, d1, d2⟩, rfl, hr, hb'⟩
      clear e0 e1 e2
      obtain ⟨f, hrow, hf⟩ := HL.out
      have hrow' := hrow.of_block (hb'.block _ hrow.lt)
      have HR' := hide hr; have HB' := hide hb'
      have z0 := hrow'.frozen (k * 3)
      have z1 := hrow'.frozen (k * 3 + 1)
      have z2 := hrow'.frozen (k * 3 + 2)
      have y0 := hrow'.cell (i := k * 3) (by omega)
      have y1 := hrow'.cell (i := k * 3 + 1) (by omega)
      have y2 := hrow'.cell (i := k * 3 + 2) (by omega)
      obtain ⟨g0, -, ⟨a3, cap3, g3, -⟩, a4, cap4, g4, -⟩ := hr.open
      simp only at g0 g3 g4
      subst g0 g3 g4
      clear hf hrow hrow' hr hb'
      go_wp2_with fail
      go_roundw
      case rel =>
        have hst := KLaid.step hlt HL.out HB'.out _ HR'.out
        have hb3 := hb.trans (HB'.out.mono hb.size)
        refine ⟨k + 1, by omega, by go_num, hst, ?_⟩
        exact ((hb3.setCell (Nat.le_refl _) _).setCell (Nat.le_refl _) _).setCell (Nat.le_refl _) _
      case measure => simp [intOf]; omega
    · go_wp2_with fail
      go_ret
      obtain rfl : k = ks.length := by omega
      exact ⟨w.heap.size, rfl, HL.out.done.1, HL.out.done.2, hb⟩

set_option maxHeartbeats 400000 in
theorem toKind_step (n : Nat) (IH : ToKSaid n) : ToKSaid (n + 1) := by
  intro t hn P c w hP hrep hwt
  obtain ⟨c0, c1, c2⟩ := c
  obtain ⟨e0, hi0, hns, a, cap, e4, hlen, hks⟩ := hrep.open
  simp only at e0 e4 hns
  subst e0 e4
  have hw : wKd t = wS t.names + wKs t.kids := by obtain ⟨s, ns, ks⟩ := t; rfl
  have hl1 := wS_len t.names
  have hl2 := wKs_len t.kids
  have hnl : t.names.length ≤ 1048576 := by omega
  have hkl : t.kids.length ≤ 1048576 := by omega
  have hkw : wKs t.kids ≤ 1048576 := by omega
  clear hl1 hl2 hw hwt
  have HP := hide hP; have HK := hide hks; have HN := hide hns; have HI := hide IH; have H0 := hide hi0; have HKW := hide hkw
  clear hP hks hns IH hrep hi0 hkw
  have hbx : ∀ o o2 o3, Below w.heap.size w (((w.alloc o).alloc o2).alloc o3) := fun o o2 o3 => (((Below.refl _ _).alloc (Nat.le_refl _) o).alloc (by simp) o2).alloc (by simp; omega) o3
  have HBX := hide hbx; clear hbx
  go_enter Tryz.func8, Tryz.ntmps8
  go_wp2_with fail
  refine (toStringS_any c1 t.names _ (P := P) (fun b hb => Nat.lt_of_lt_of_le (unhide HP b hb) (unhide HBX _ _ _).size) ((unhide HN).carry (fun b hb => (unhide HBX _ _ _).block b (unhide HP b hb)) (fun _ h => h)) hnl).mono ?_
  rintro e w1 ⟨v', rfl, ⟨a', rfl⟩, hs, hb1⟩
  obtain ⟨q0, q1, q2, hsz1, hb01⟩ := kbox3 hb1
  have k0 := q0.cell (i := 2) (by omega)
  have f2 := q2.frozen 1
  have k2 := q2.cell (i := 1) (by omega)
  simp only [row3] at k0 k2
  have HS := hide hs; have HB1 := hide hb01; have Q1 := hide q1; have Q2 := hide q2
  clear hs hb1 hb01 q0 q1 q2
  go_wp2_with fail
  have q2 := (unhide Q2).set 1 (.slice a' t.names.length t.names.length)
  have q1 := (unhide Q1).setOther (a := ⟨w.heap.size + 1 + 1, 1, none⟩) (by simp) (.slice a' t.names.length t.names.length)
  have hb2 := (unhide HB1).setCell (p := ⟨w.heap.size + 1 + 1, 1, none⟩) (by simp; omega) (.slice a' t.names.length t.names.length)
  refine (toKindS_any n (unhide HI) t (by omega) P a cap _ (fun b hb => Nat.lt_of_lt_of_le (unhide HP b hb) hb2.size) hkl (unhide HKW) (fun i hi => ?_)).mono ?_
  · obtain ⟨b, o, c, h1, h2, h3, h4⟩ := unhide HK i hi
    exact ⟨b, o, c, h1, h2, h3.carry (hb2.block b (unhide HP b h2)), KRep.carry (fun b hb => hb2.block b (unhide HP b hb)) (fun _ h => h) _ _ h4⟩
  rintro e w3 ⟨bk, rfl, hbk, hrk, hb3⟩
  have hsz2 : (w1.setCell ⟨w.heap.size + 1 + 1, 1, none⟩ (.slice a' t.names.length t.names.length)).heap.size = w1.heap.size := size_setCell _ _ _
  have p1 := q1.of_block (hb3.block _ (by omega))
  have p2 := q2.of_block (hb3.block _ (by omega))
  have hb03 := hb2.trans (hb3.mono hb2.size)
  have hs3 : StrsAt (fun b => w.heap.size + 3 ≤ b ∧ b < w1.heap.size) w3 (.slice a' t.names.length t.names.length) t.names :=
    (unhide HS).carry (fun b hb => by
      have h1 : w.heap.size + 3 ≤ b := by have := hb.1; simpa using this
      rw [hb3.block b (by rw [hsz2]; exact hb.2), Below.heap_setCell _ _ _ _ (by simp; omega)]) (fun b hb => ⟨by have := hb.1; simpa using this, hb.2⟩)
  have hk3 : KRepK (fun b => w.heap.size + 3 ≤ b ∧ b < w3.heap.size) w3 bk 0 t.kids :=
    KRepK.carry (fun _ _ => rfl) (fun b hb => ⟨by have := hb.1; omega, hb.2⟩) _ _ rfl _ hrk
  have hbk3 : w.heap.size + 3 ≤ bk ∧ bk < w3.heap.size := ⟨by have := hbk.1; omega, hbk.2⟩
  have hs13 : w1.heap.size ≤ w3.heap.size := by have := hb3.size; omega
  have a0 := p1.cell (i := 0) (by omega); have a1 := p1.cell (i := 1) (by omega); have a2 := p1.cell (i := 2) (by omega)
  have b0 := p2.cell (i := 0) (by omega); have b1 := p2.cell (i := 1) (by omega); have b2 := p2.cell (i := 2) (by omega)
  have fa := p1.frozen; have fb := p2.frozen
  simp [row3] at a0 a1 a2 b0 b1 b2
  clear q1 q2 hb2 hbk hrk hb3 hsz2 p1 p2 k0 k2 f2 Q1 Q2 HB1 HS HN HI HK HP HBX HKW
  have HS3 := hide hs3; have HK3 := hide hk3; have HBK3 := hide hbk3; have HB03 := hide hb03; have HS13 := hide hs13
  clear hs3 hk3 hbk3 hb03 hs13
  go_wp2_with fail
  refine bodyPost_ret (v := .agg #[.int .i64 t.sort, .slice a' t.names.length t.names.length, .slice (some ⟨bk, 0, none⟩) t.kids.length t.kids.length]) (by simp [results, Tryz.results8, go_sem, a0, a1, a2]) rfl ⟨⟨_, _, _⟩, rfl, ?_, ?_⟩
  · refine KRep.make (unhide H0) ((unhide HS3).carry (fun b hb => ?_) (fun b hb => ?_)) hlen ?_ (KRepK.carry (P := fun b => w.heap.size + 3 ≤ b ∧ b < w3.heap.size) (fun b hb => ?_) (fun b hb => ?_) _ _ ?_ _ (unhide HK3))
    · exact heap_set4 _ _ _ _ _ _ _ _ (by omega) (by omega)
    · have := unhide HS13; exact ⟨by omega, by simp only [size_setCell]; omega⟩
    · have := unhide HBK3; exact ⟨by omega, by simp only [size_setCell]; omega⟩
    · exact heap_set4 _ _ _ _ _ _ _ _ (by omega) (by omega)
    · exact ⟨by omega, by simp only [size_setCell]; omega⟩
    · have := unhide HBK3; exact heap_set4 _ _ _ _ _ _ _ _ (by omega) (by omega)
  · exact ((((unhide HB03).setCell (by simp; omega) _).setCell (by simp) _).setCell (by simp) _).setCell (by simp) _

theorem toKind_all : ∀ n, ToKSaid n
  | 0 => fun t h => by omega
  | n + 1 => toKind_step n (toKind_all n)

theorem toKind_any (t : Kd) (P : Nat → Prop) (c : C3) (w : World) (hP : ∀ b, P b → b < w.heap.size) (hrep : KRep P w t c) (hwt : wKd t ≤ 1048576) :
    Calls Tryz.prog 8 #[.agg #[c.c0, c.c1, c.c2]] w fun e w' => ∃ c' : C3, e = .returned (.agg #[c'.c0, c'.c1, c'.c2]) ∧ KRep (New w w') w' t c' ∧ Below w.heap.size w w' :=
  toKind_all (ksz t + 1) t (by omega) P c w hP hrep hwt
end Go.Proofs.YtcpfelaffclalaaGreatDoor

/- The walks of eqKind, eqKindS: of two schemas that lie in memory as one and the same they answer true, and turn nothing that was there. No conditions. -/

namespace Go.Proofs.YtcpfelaffclalaaGreatDoor
open Go Go.RowKit

def EqKSaid (n : Nat) : Prop := ∀ (t : Kd), ksz t < n → ∀ (P Q : Nat → Prop) (c d : C3) (w : World), (∀ b, P b → b < w.heap.size) → (∀ b, Q b → b < w.heap.size) → KRep P w t c → KRep Q w t d →
    Calls Tryz.prog 10 #[.agg #[c.c0, c.c1, c.c2], .agg #[d.c0, d.c1, d.c2]] w fun e w' => e = .returned (.bool true) ∧ Below w.heap.size w w'

set_option maxHeartbeats 400000 in
theorem eqKindS_any (n : Nat) (IH : EqKSaid n) (t : Kd) (hn : ksz t ≤ n) (P Q : Nat → Prop) (a a2 : Option Addr) (cap cap2 : Nat) (w : World) (hP : ∀ b, P b → b < w.heap.size) (hQ : ∀ b, Q b → b < w.heap.size)
    (hlen : t.kids.length ≤ 9223372036854775807)
    (hc : ∀ i, (hi : i < t.kids.length) → ∃ b o c, a = some ⟨b, o, none⟩ ∧ P b ∧ C3.at w b (o + i * 3) c ∧ KRep P w t.kids[i] c)
    (hc2 : ∀ i, (hi : i < t.kids.length) → ∃ b o c, a2 = some ⟨b, o, none⟩ ∧ Q b ∧ C3.at w b (o + i * 3) c ∧ KRep Q w t.kids[i] c) :
    Calls Tryz.prog 31 #[.slice a t.kids.length cap, .slice a2 t.kids.length cap2] w fun e w' => e = .returned (.bool true) ∧ Below w.heap.size w w' := by
  generalize hks : t.kids = ks at *
  have HK := hide hks; clear hks
  have HC := hide hc; clear hc
  have HC2 := hide hc2; clear hc2
  have HP := hide hP; clear hP
  have HQ := hide hQ; clear hQ
  have HI := hide IH; clear IH
  go_enter Tryz.func31, Tryz.ntmps31
  go_wp2_with fail
  go_loopw [5] (fun i wr => ∃ (k : Nat), k ≤ ks.length ∧ i = .int .i64 k ∧ Below w.heap.size w wr) (fun i _ => ks.length - (intOf i).toNat)
  case atStart => exact ⟨0, Nat.zero_le _, rfl, Below.refl _ _⟩
  case round =>
    obtain ⟨k, hk, rfl, hb⟩ := hrel
    by_cases hlt : k < ks.length
    · obtain ⟨b, o, c, rfl, hpb, hcell, hrep⟩ := unhide HC k hlt
      obtain ⟨b2, o2, d, rfl, hpb2, hcell2, hrep2⟩ := unhide HC2 k hlt
      have hcell' := hcell.carry (hb.block b (unhide HP b hpb))
      have hcell2' := hcell2.carry (hb.block b2 (unhide HQ b2 hpb2))
      obtain ⟨c0, c1, c2⟩ := c
      obtain ⟨d0, d1, d2⟩ := d
      obtain ⟨e0, e1, e2⟩ := hcell'
      obtain ⟨g0, g1, g2⟩ := hcell2'
      simp only at e0 e1 e2 g0 g1 g2
      have hmem : ks[k] ∈ t.kids := by rw [unhide HK]; exact List.getElem_mem hlt
      have hsm : ksz ks[k] < n := by have := ksz_kid hmem; omega
      have hcall := unhide HI ks[k] hsm P Q ⟨c0, c1, c2⟩ ⟨d0, d1, d2⟩ wr.drew (fun b hb' => Nat.lt_of_lt_of_le (unhide HP b hb') hb.size) (fun b hb' => Nat.lt_of_lt_of_le (unhide HQ b hb') hb.size) (KRep.carry (w' := wr.drew) (fun b hb' => hb.drew.block b (unhide HP b hb')) (fun _ h => h) _ _ hrep) (KRep.carry (w' := wr.drew) (fun b hb' => hb.drew.block b (unhide HQ b hb')) (fun _ h => h) _ _ hrep2)
      have HCALL := hide hcall
      clear hrep hcell hpb hrep2 hcell2 hpb2 hmem hcall HC HC2
      go_wp2_with fail
      go_region_with (go_at_call 10; refine (unhide HCALL).mono ?_; rintro e w' ⟨rfl, hb'⟩)
      all_goals
        have hb2 := hb.drew.trans (hb'.mono hb.drew.size)
        go_wp2_with fail
        go_roundw
        case rel => exact ⟨k + 1, by omega, by go_num, hb2⟩
        case measure => simp [intOf]; omega
    · go_wp2_with fail
      go_ret
      exact ⟨rfl, hb⟩

set_option maxHeartbeats 400000 in
theorem eqKind_step (n : Nat) (IH : EqKSaid n) : EqKSaid (n + 1) := by
  intro t hn P Q c d w hP hQ hrep hrep2
  obtain ⟨c0, c1, c2⟩ := c
  obtain ⟨d0, d1, d2⟩ := d
  obtain ⟨e0, -, hns, a, cap, e2, hlen, hks⟩ := hrep.open
  obtain ⟨g0, -, hns2, a2, cap2, g2, -, hks2⟩ := hrep2.open
  simp only at e0 e2 hns g0 g2 hns2
  subst e0 e2 g0 g2
  have HP := hide hP; have HK := hide hks; have HN := hide hns; have HI := hide IH; have HQ := hide hQ; have HK2 := hide hks2; have HN2 := hide hns2
  clear hP hQ hks hns hks2 hns2 IH hrep hrep2
  have hbx : ∀ o o2, Below w.heap.size w ((w.alloc o).alloc o2) := fun o o2 => ((Below.refl _ _).alloc (Nat.le_refl _) o).alloc (by simp) o2
  have HBX := hide hbx; clear hbx
  go_enter Tryz.func10, Tryz.ntmps10
  go_wp2_with fail
  refine (eqStringS_any c1 d1 t.names _ (P := P) (Q := Q) ((unhide HN).carry (fun b hb => (unhide HBX _ _).block b (unhide HP b hb)) (fun _ h => h)) ((unhide HN2).carry (fun b hb => (unhide HBX _ _).block b (unhide HQ b hb)) (fun _ h => h)) (fun b hb => Nat.lt_of_lt_of_le (unhide HP b hb) (unhide HBX _ _).size) (fun b hb => Nat.lt_of_lt_of_le (unhide HQ b hb) (unhide HBX _ _).size)).mono ?_
  rintro e w1 ⟨rfl, hb1⟩
  obtain ⟨q0, q1, hsz1, hb01⟩ := kbox2 hb1
  have k0 := q0.cell (i := 2) (by omega)
  have k1 := q1.cell (i := 2) (by omega)
  simp only [row3] at k0 k1
  have HB1 := hide hb01
  clear hb1 q0 q1 hb01
  go_wp2_with fail
  refine (eqKindS_any n (unhide HI) t (by omega) P Q a a2 cap cap2 w1 (fun b hb => Nat.lt_of_lt_of_le (unhide HP b hb) (unhide HB1).size) (fun b hb => Nat.lt_of_lt_of_le (unhide HQ b hb) (unhide HB1).size) hlen (fun i hi => ?_) (fun i hi => ?_)).mono ?_
  · obtain ⟨b, o, c, h1, h2, h3, h4⟩ := unhide HK i hi
    exact ⟨b, o, c, h1, h2, h3.carry ((unhide HB1).block b (unhide HP b h2)), KRep.carry (fun b hb => (unhide HB1).block b (unhide HP b hb)) (fun _ h => h) _ _ h4⟩
  · obtain ⟨b, o, c, h1, h2, h3, h4⟩ := unhide HK2 i hi
    exact ⟨b, o, c, h1, h2, h3.carry ((unhide HB1).block b (unhide HQ b h2)), KRep.carry (fun b hb => (unhide HB1).block b (unhide HQ b hb)) (fun _ h => h) _ _ h4⟩
  rintro e w2 ⟨rfl, hb2⟩
  have hb3 := (unhide HB1).trans (hb2.mono (unhide HB1).size)
  go_wp2_with fail
  go_ret
  exact ⟨rfl, hb3⟩

theorem eqKind_all : ∀ n, EqKSaid n
  | 0 => fun t h => by omega
  | n + 1 => eqKind_step n (eqKind_all n)

theorem eqKind_any (t : Kd) (P Q : Nat → Prop) (c d : C3) (w : World) (hP : ∀ b, P b → b < w.heap.size) (hQ : ∀ b, Q b → b < w.heap.size) (h1 : KRep P w t c) (h2 : KRep Q w t d) :
    Calls Tryz.prog 10 #[.agg #[c.c0, c.c1, c.c2], .agg #[d.c0, d.c1, d.c2]] w fun e w' => e = .returned (.bool true) ∧ Below w.heap.size w w' :=
  eqKind_all (ksz t + 1) t (by omega) P Q c d w hP hQ h1 h2
end Go.Proofs.YtcpfelaffclalaaGreatDoor
