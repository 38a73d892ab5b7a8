/- The walks of toStringS, toTree, toTreeS: they make a new copy of a tree, and turn nothing that was there. No conditions but the tree's weight, at most 2^20. -/
import Derived.Test.YtbigchdhpdgicaaDoorPart01
import Derived.Test.YtbigchdhpdgicaaDoorPart00
namespace Go.Proofs.YtbigchdhpdgicaaDoor
open Go Go.RowKit

/-- The five zero cells of a tree. -/
def z5 : Array Value := #[.int .i64 0, .int .i64 0, .string ByteArray.empty, .slice none 0 0, .slice none 0 0]

theorem infoTree : (Tryd.prog.info? 41).map (fun i => (i.zero, i.size, i.bytes)) = some (some (.agg z5), 5, 80) := by kernel_rfl

theorem run_make_tree (n : Nat) (h : n ≤ 1048576) (w : World) :
    (Instr.makeSlice 39 (.int .i64 (n : Int)) (.int .i64 (n : Int))).run Tryd.prog w = .ok (.slice (some ⟨w.heap.size, 0, none⟩) n n) (w.alloc (.cells (madeCells z5 (n * 5)) 41)) := by
  obtain ⟨i, hi, he⟩ : ∃ i, Tryd.prog.info? 41 = some i ∧ (i.zero, i.size, i.bytes) = (some (.agg z5), 5, 80) := by
    have := infoTree
    cases h : Tryd.prog.info? 41 with
    | none => rw [h] at this; simp at this
    | some i => rw [h] at this; exact ⟨i, rfl, by simpa using this⟩
  simp only [Prod.mk.injEq] at he
  obtain ⟨e1, e2, e3⟩ := he
  have := run_make (P := Tryd.prog) w 39 41 i (.agg z5) Tryd.underlying39 hi e1 .i64 .i64 n n (by omega) (by omega) (by rw [e3]; omega) (by omega)
  rw [this, e2]
  simp [Value.cells]

def ToSaid (n : Nat) : Prop := ∀ (t : Tr), tsz t < n → ∀ (P : Nat → Prop) (c : C5) (w : World), (∀ b, P b → b < w.heap.size) → Rep P w t c → wT t ≤ 1048576 →
    Calls Tryd.prog 31 #[.agg #[c.c0, c.c1, c.c2, c.c3, c.c4]] w fun e w' => ∃ c' : C5, e = .returned (.agg #[c'.c0, c'.c1, c'.c2, c'.c3, c'.c4]) ∧ Rep (New w w') w' t c' ∧ Below w.heap.size w w'

/-- What the loop of toTreeS has laid after k rounds: the row, and the trees that its first cells are. -/
def Laid (w wr : World) (ks : List Tr) (k : Nat) : Prop :=
  ∃ f, wr.rowIs w.heap.size 41 (ks.length * 5) f ∧ ∀ j, j < k → (hj : j < ks.length) → ∃ c : C5, f (j * 5) = c.c0 ∧ f (j * 5 + 1) = c.c1 ∧ f (j * 5 + 2) = c.c2 ∧ f (j * 5 + 3) = c.c3 ∧ f (j * 5 + 4) = c.c4 ∧
    Rep (fun b => w.heap.size + 1 ≤ b ∧ b < wr.heap.size) wr ks[j] c

theorem heap_set5 (w : World) (b o : Nat) (c0 c1 c2 c3 c4 : Value) (k : Nat) (h : k ≠ b) :
    (((((w.setCell ⟨b, o, none⟩ c0).setCell ⟨b, o + 1, none⟩ c1).setCell ⟨b, o + 2, none⟩ c2).setCell ⟨b, o + 3, none⟩ c3).setCell ⟨b, o + 4, none⟩ c4).heap[k]? = w.heap[k]? := by
  rw [Below.heap_setCell _ _ _ _ h, Below.heap_setCell _ _ _ _ h, Below.heap_setCell _ _ _ _ h, Below.heap_setCell _ _ _ _ h, Below.heap_setCell _ _ _ _ h]

theorem heap_set6 (w : World) (b b2 : Nat) (v c0 c1 c2 c3 c4 : Value) (k : Nat) (h : k ≠ b) (h2 : k ≠ b2) :
    ((((((w.setCell ⟨b2, 4, none⟩ v).setCell ⟨b, 0, none⟩ c0).setCell ⟨b, 1, none⟩ c1).setCell ⟨b, 2, none⟩ c2).setCell ⟨b, 3, none⟩ c3).setCell ⟨b, 4, none⟩ c4).heap[k]? = w.heap[k]? := by
  rw [Below.heap_setCell _ _ _ _ h, Below.heap_setCell _ _ _ _ h, Below.heap_setCell _ _ _ _ h, Below.heap_setCell _ _ _ _ h, Below.heap_setCell _ _ _ _ h, Below.heap_setCell _ _ _ _ h2]

theorem Laid.step {w wr w' : World} {ks : List Tr} {k : Nat} (hlt : k < ks.length) (hL : Laid w wr ks k) (hb' : Below wr.heap.size wr w') (c : C5) (hr : Rep (New wr w') w' ks[k] c) :
    Laid w (((((w'.setCell ⟨w.heap.size, k * 5, none⟩ c.c0).setCell ⟨w.heap.size, k * 5 + 1, none⟩ c.c1).setCell ⟨w.heap.size, k * 5 + 2, none⟩ c.c2).setCell ⟨w.heap.size, k * 5 + 3, none⟩ c.c3).setCell ⟨w.heap.size, k * 5 + 4, none⟩ c.c4) ks (k + 1) := by
  obtain ⟨f, hrow, hf⟩ := hL
  have hlt0 := hrow.lt
  have hrow' := hrow.of_block (hb'.block _ hrow.lt)
  have hs := hb'.size
  refine ⟨_, ((((hrow'.set (k * 5) c.c0).set (k * 5 + 1) c.c1).set (k * 5 + 2) c.c2).set (k * 5 + 3) c.c3).set (k * 5 + 4) c.c4, fun j hj hjl => ?_⟩
  by_cases e : j = k
  · subst e
    refine ⟨c, by simp, by simp, by simp, by simp, by simp, ?_⟩
    refine Rep.carry (fun b hb => heap_set5 _ _ _ _ _ _ _ _ _ (by have := hb.1; omega)) (fun b hb => ?_) _ _ hr
    simp only [size_setCell]
    have := hb.1; have := hb.2
    omega
  · obtain ⟨d, g0, g1, g2, g3, g4, hd⟩ := hf j (by omega) hjl
    refine ⟨d, ?_, ?_, ?_, ?_, ?_, ?_⟩
    · repeat rw [if_neg (by omega)]
      exact g0
    · repeat rw [if_neg (by omega)]
      exact g1
    · repeat rw [if_neg (by omega)]
      exact g2
    · repeat rw [if_neg (by omega)]
      exact g3
    · repeat rw [if_neg (by omega)]
      exact g4
    · refine Rep.carry (fun b hb => ?_) (fun b hb => ?_) _ _ hd
      · rw [heap_set5 _ _ _ _ _ _ _ _ _ (by omega), hb'.block b hb.2]
      · simp only [size_setCell]; omega

theorem Laid.done {w wr : World} {ks : List Tr} (hL : Laid w wr ks ks.length) : New w wr w.heap.size ∧ RepK (New w wr) wr w.heap.size 0 ks := by
  obtain ⟨f, hrow, hf⟩ := hL
  refine ⟨⟨Nat.le_refl _, hrow.lt⟩, RepK.mk fun i hi => ?_⟩
  obtain ⟨d, g0, g1, g2, g3, g4, hd⟩ := hf i hi hi
  refine ⟨d, ?_, Rep.carry (fun _ _ => rfl) (fun b hb => ⟨by omega, hb.2⟩) _ _ hd⟩
  simp only [Nat.zero_add, C5.at]
  rw [hrow.cell (i := i * 5) (by omega), hrow.cell (i := i * 5 + 1) (by omega), hrow.cell (i := i * 5 + 2) (by omega), hrow.cell (i := i * 5 + 3) (by omega), hrow.cell (i := i * 5 + 4) (by omega), g0, g1, g2, g3, g4]
  exact ⟨rfl, rfl, rfl, rfl, rfl⟩

set_option maxHeartbeats 400000 in
theorem toTreeS_any (n : Nat) (IH : ToSaid n) (t : Tr) (hn : tsz t ≤ n) (P : Nat → Prop) (a : Option Addr) (cap : Nat) (w : World) (hP : ∀ b, P b → b < w.heap.size)
    (hlen : t.kids.length ≤ 1048576) (hwt : wK t.kids ≤ 1048576)
    (hc : ∀ i, (hi : i < t.kids.length) → ∃ b o c, a = some ⟨b, o, none⟩ ∧ P b ∧ C5.at w b (o + i * 5) c ∧ Rep P w t.kids[i] c) :
    Calls Tryd.prog 43 #[.slice a t.kids.length cap] w fun e w' => ∃ b, e = .returned (.slice (some ⟨b, 0, none⟩) t.kids.length t.kids.length) ∧ New w w' b ∧ RepK (New w w') w' b 0 t.kids ∧ Below w.heap.size w w' := by
  generalize hks : t.kids = ks at *
  have HK := hide hks; clear hks
  have HC := hide hc; clear hc
  have HP := hide hP; clear hP
  have HI := hide IH; clear IH
  have HW := hide hwt; clear hwt
  have hmk := run_make_tree ks.length hlen
  go_enter Tryd.func43, Tryd.ntmps43
  go_wp2_with fail
  clear hmk
  go_loopw [4] (fun i wr => ∃ (k : Nat), k ≤ ks.length ∧ i = .int .i64 k ∧ Hid (Laid w wr ks k) ∧ Below w.heap.size w wr) (fun i _ => ks.length - (intOf i).toNat)
  case atStart =>
    have hrow := World.rowIs_alloc w (madeCells z5 (ks.length * 5)) 41 (fun i => (madeCells z5 (ks.length * 5))[i]?.getD undef) (fun i hi => by simp [hi])
    rw [size_madeCells] at hrow
    exact ⟨0, Nat.zero_le _, rfl, hide ⟨_, hrow, fun j hj => by omega⟩, (Below.refl _ _).alloc (Nat.le_refl _) _⟩
  case round =>
    obtain ⟨k, hk, rfl, HL, hb⟩ := hrel
    by_cases hlt : k < ks.length
    · obtain ⟨b, o, c, rfl, hpb, hcell, hrep⟩ := unhide HC k hlt
      have hcell' := hcell.carry (hb.block b (unhide HP b hpb))
      obtain ⟨c0, c1, c2, c3, c4⟩ := c
      obtain ⟨e0, e1, e2, e3, e4⟩ := hcell'
      simp only at e0 e1 e2 e3 e4
      have HR := hide hrep; clear hrep hcell hpb
      have hmem : ks[k] ∈ t.kids := by rw [unhide HK]; exact List.getElem_mem hlt
      have hsm : tsz ks[k] < n := by have := tsz_kid hmem; omega
      have hwk : wT ks[k] ≤ 1048576 := by have := wK_mem (List.getElem_mem hlt); have := unhide HW; omega
      clear hmem
      go_wp2_with fail
      refine (unhide HI ks[k] hsm P ⟨c0, c1, c2, c3, c4⟩ wr (fun b hb' => Nat.lt_of_lt_of_le (unhide HP b hb') hb.size) (Rep.carry (fun b hb' => hb.block b (unhide HP b hb')) (fun _ h => h) _ _ (unhide HR)) hwk).mono ?_
      rintro e w' ⟨⟨d0, d1, d2, d3, d4⟩, rfl, hr, hb'⟩
      clear e0 e1 e2 e3 e4
      obtain ⟨f, hrow, hf⟩ := HL.out
      have hrow' := hrow.of_block (hb'.block _ hrow.lt)
      have HR' := hide hr; have HB' := hide hb'
      have z0 := hrow'.frozen (k * 5)
      have z1 := hrow'.frozen (k * 5 + 1)
      have z2 := hrow'.frozen (k * 5 + 2)
      have z3 := hrow'.frozen (k * 5 + 3)
      have z4 := hrow'.frozen (k * 5 + 4)
      have y0 := hrow'.cell (i := k * 5) (by omega)
      have y1 := hrow'.cell (i := k * 5 + 1) (by omega)
      have y2 := hrow'.cell (i := k * 5 + 2) (by omega)
      have y3 := hrow'.cell (i := k * 5 + 3) (by omega)
      have y4 := hrow'.cell (i := k * 5 + 4) (by omega)
      obtain ⟨g0, g1, g2, -, -, -, ⟨a3, cap3, g3, -⟩, a4, cap4, g4, -⟩ := hr.open
      simp only at g0 g1 g2 g3 g4
      subst g0 g1 g2 g3 g4
      clear hf hrow hrow' hr hb'
      go_wp2_with fail
      go_roundw
      case rel =>
        have hst := Laid.step hlt HL.out HB'.out _ HR'.out
        have hb3 := hb.trans (HB'.out.mono hb.size)
        refine ⟨k + 1, by omega, by go_num, hst, ?_⟩
        exact ((((hb3.setCell (Nat.le_refl _) _).setCell (Nat.le_refl _) _).setCell (Nat.le_refl _) _).setCell (Nat.le_refl _) _).setCell (Nat.le_refl _) _
      case measure => simp [intOf]; omega
    · go_wp2_with fail
      go_ret
      obtain rfl : k = ks.length := by omega
      exact ⟨w.heap.size, rfl, HL.out.done.1, HL.out.done.2, hb⟩

theorem box3 {w w1 : World} {x0 x1 x2 x3 x4 y0 y1 y2 y3 y4 z0 z1 z2 z3 z4 : Value} {tx ty tz : TypeId}
    (hb : Below (((w.alloc (.cells #[x0, x1, x2, x3, x4] tx)).alloc (.cells #[y0, y1, y2, y3, y4] ty)).alloc (.cells #[z0, z1, z2, z3, z4] tz)).heap.size (((w.alloc (.cells #[x0, x1, x2, x3, x4] tx)).alloc (.cells #[y0, y1, y2, y3, y4] ty)).alloc (.cells #[z0, z1, z2, z3, z4] tz)) w1) :
    w1.rowIs w.heap.size tx 5 (row5 x0 x1 x2 x3 x4) ∧ w1.rowIs (w.heap.size + 1) ty 5 (row5 y0 y1 y2 y3 y4) ∧ w1.rowIs (w.heap.size + 1 + 1) tz 5 (row5 z0 z1 z2 z3 z4) ∧ w.heap.size + 3 ≤ w1.heap.size ∧ Below w.heap.size w w1 := by
  have e1 : (w.alloc (.cells #[x0, x1, x2, x3, x4] tx)).heap.size = w.heap.size + 1 := by simp
  have e2 : ((w.alloc (.cells #[x0, x1, x2, x3, x4] tx)).alloc (.cells #[y0, y1, y2, y3, y4] ty)).heap.size = w.heap.size + 1 + 1 := by simp
  have r0 := ((row5_alloc w x0 x1 x2 x3 x4 tx).alloc (.cells #[y0, y1, y2, y3, y4] ty)).alloc (.cells #[z0, z1, z2, z3, z4] tz)
  have r1 := (row5_alloc (w.alloc (.cells #[x0, x1, x2, x3, x4] tx)) y0 y1 y2 y3 y4 ty).alloc (.cells #[z0, z1, z2, z3, z4] tz)
  have r2 := row5_alloc ((w.alloc (.cells #[x0, x1, x2, x3, x4] tx)).alloc (.cells #[y0, y1, y2, y3, y4] ty)) z0 z1 z2 z3 z4 tz
  rw [e1] at r1
  rw [e2] at r2
  have hs := hb.size
  refine ⟨r0.of_block (hb.block _ r0.lt), r1.of_block (hb.block _ r1.lt), r2.of_block (hb.block _ r2.lt), by simpa using hs, ?_⟩
  exact ((((Below.refl _ _).alloc (Nat.le_refl _) _).alloc (by simp) _).alloc (by simp; omega) _).trans (hb.mono (by simp; omega))

set_option maxHeartbeats 400000 in
theorem toTree_step (n : Nat) (IH : ToSaid n) : ToSaid (n + 1) := by
  intro t hn P c w hP hrep hwt
  obtain ⟨c0, c1, c2, c3, c4⟩ := c
  obtain ⟨e0, e1, e2, hi0, hi1, htx, hns, a, cap, e4, hlen, hks⟩ := hrep.open
  simp only at e0 e1 e2 e4 hns
  subst e0 e1 e2 e4
  have hw : wT t = t.text.size + wS t.names + wK t.kids := by obtain ⟨s, n, tx, ns, ks⟩ := t; rfl
  have hl1 := wS_len t.names
  have hl2 := wK_len t.kids
  have hnl : t.names.length ≤ 1048576 := by omega
  have hkl : t.kids.length ≤ 1048576 := by omega
  have hkw : wK t.kids ≤ 1048576 := by omega
  clear hl1 hl2 hw hwt
  have HP := hide hP; have HK := hide hks; have HN := hide hns; have HI := hide IH; have H0 := hide hi0; have H1 := hide hi1; have HKW := hide hkw
  clear hP hks hns IH hrep hi0 hi1 hkw
  have hbx : ∀ o o2 o3, Below w.heap.size w (((w.alloc o).alloc o2).alloc o3) := fun o o2 o3 => (((Below.refl _ _).alloc (Nat.le_refl _) o).alloc (by simp) o2).alloc (by simp; omega) o3
  have HBX := hide hbx; clear hbx
  go_enter Tryd.func31, Tryd.ntmps31
  go_wp2_with fail
  refine (toStringS_any c3 t.names _ (P := P) (fun b hb => Nat.lt_of_lt_of_le (unhide HP b hb) (unhide HBX _ _ _).size) ((unhide HN).carry (fun b hb => (unhide HBX _ _ _).block b (unhide HP b hb)) (fun _ h => h)) hnl).mono ?_
  rintro e w1 ⟨v', rfl, ⟨a', rfl⟩, hs, hb1⟩
  obtain ⟨q0, q1, q2, hsz1, hb01⟩ := box3 hb1
  have k0 := q0.cell (i := 4) (by omega)
  have f2 := q2.frozen 3
  have k2 := q2.cell (i := 3) (by omega)
  simp only [row5] at k0 k2
  have HS := hide hs; have HB1 := hide hb01; have Q1 := hide q1; have Q2 := hide q2
  clear hs hb1 hb01 q0 q1 q2
  go_wp2_with fail
  have q2 := (unhide Q2).set 3 (.slice a' t.names.length t.names.length)
  have q1 := (unhide Q1).setOther (a := ⟨w.heap.size + 1 + 1, 3, none⟩) (by simp) (.slice a' t.names.length t.names.length)
  have hb2 := (unhide HB1).setCell (p := ⟨w.heap.size + 1 + 1, 3, none⟩) (by simp; omega) (.slice a' t.names.length t.names.length)
  refine (toTreeS_any n (unhide HI) t (by omega) P a cap _ (fun b hb => Nat.lt_of_lt_of_le (unhide HP b hb) hb2.size) hkl (unhide HKW) (fun i hi => ?_)).mono ?_
  · obtain ⟨b, o, c, h1, h2, h3, h4⟩ := unhide HK i hi
    exact ⟨b, o, c, h1, h2, h3.carry (hb2.block b (unhide HP b h2)), Rep.carry (fun b hb => hb2.block b (unhide HP b hb)) (fun _ h => h) _ _ h4⟩
  rintro e w3 ⟨bk, rfl, hbk, hrk, hb3⟩
  have hsz2 : (w1.setCell ⟨w.heap.size + 1 + 1, 3, none⟩ (.slice a' t.names.length t.names.length)).heap.size = w1.heap.size := size_setCell _ _ _
  have p1 := q1.of_block (hb3.block _ (by omega))
  have p2 := q2.of_block (hb3.block _ (by omega))
  have hb03 := hb2.trans (hb3.mono hb2.size)
  have hs3 : StrsAt (fun b => w.heap.size + 3 ≤ b ∧ b < w1.heap.size) w3 (.slice a' t.names.length t.names.length) t.names :=
    (unhide HS).carry (fun b hb => by
      have h1 : w.heap.size + 3 ≤ b := by have := hb.1; simpa using this
      rw [hb3.block b (by rw [hsz2]; exact hb.2), Below.heap_setCell _ _ _ _ (by simp; omega)]) (fun b hb => ⟨by have := hb.1; simpa using this, hb.2⟩)
  have hk3 : RepK (fun b => w.heap.size + 3 ≤ b ∧ b < w3.heap.size) w3 bk 0 t.kids :=
    RepK.carry (fun _ _ => rfl) (fun b hb => ⟨by have := hb.1; omega, hb.2⟩) _ _ rfl _ hrk
  have hbk3 : w.heap.size + 3 ≤ bk ∧ bk < w3.heap.size := ⟨by have := hbk.1; omega, hbk.2⟩
  have hs13 : w1.heap.size ≤ w3.heap.size := by have := hb3.size; omega
  have a0 := p1.cell (i := 0) (by omega); have a1 := p1.cell (i := 1) (by omega); have a2 := p1.cell (i := 2) (by omega); have a3 := p1.cell (i := 3) (by omega); have a4 := p1.cell (i := 4) (by omega)
  have b0 := p2.cell (i := 0) (by omega); have b1 := p2.cell (i := 1) (by omega); have b2 := p2.cell (i := 2) (by omega); have b3 := p2.cell (i := 3) (by omega); have b4 := p2.cell (i := 4) (by omega)
  have fa := p1.frozen; have fb := p2.frozen
  simp [row5] at a0 a1 a2 a3 a4 b0 b1 b2 b3 b4
  clear q1 q2 hb2 hbk hrk hb3 hsz2 p1 p2 k0 k2 f2 Q1 Q2 HB1 HS HN HI HK HP HBX HKW
  have HS3 := hide hs3; have HK3 := hide hk3; have HBK3 := hide hbk3; have HB03 := hide hb03; have HS13 := hide hs13
  clear hs3 hk3 hbk3 hb03 hs13
  go_wp2_with fail
  refine bodyPost_ret (v := .agg #[.int .i64 t.sort, .int .i64 t.num, .string t.text, .slice a' t.names.length t.names.length, .slice (some ⟨bk, 0, none⟩) t.kids.length t.kids.length]) (by simp [results, Tryd.results31, go_sem, a0, a1, a2, a3, a4]) rfl ⟨⟨_, _, _, _, _⟩, rfl, ?_, ?_⟩
  · refine Rep.make (unhide H0) (unhide H1) htx ((unhide HS3).carry (fun b hb => ?_) (fun b hb => ?_)) hlen ?_ (RepK.carry (P := fun b => w.heap.size + 3 ≤ b ∧ b < w3.heap.size) (fun b hb => ?_) (fun b hb => ?_) _ _ ?_ _ (unhide HK3))
    · exact heap_set6 _ _ _ _ _ _ _ _ _ _ (by omega) (by omega)
    · have := unhide HS13; exact ⟨by omega, by simp only [size_setCell]; omega⟩
    · have := unhide HBK3; exact ⟨by omega, by simp only [size_setCell]; omega⟩
    · exact heap_set6 _ _ _ _ _ _ _ _ _ _ (by omega) (by omega)
    · exact ⟨by omega, by simp only [size_setCell]; omega⟩
    · have := unhide HBK3; exact heap_set6 _ _ _ _ _ _ _ _ _ _ (by omega) (by omega)
  · exact ((((((unhide HB03).setCell (by simp; omega) _).setCell (by simp) _).setCell (by simp) _).setCell (by simp) _).setCell (by simp) _).setCell (by simp) _

theorem toTree_all : ∀ n, ToSaid n
  | 0 => fun t h => by omega
  | n + 1 => toTree_step n (toTree_all n)

theorem toTree_any (t : Tr) (P : Nat → Prop) (c : C5) (w : World) (hP : ∀ b, P b → b < w.heap.size) (hrep : Rep P w t c) (hwt : wT t ≤ 1048576) :
    Calls Tryd.prog 31 #[.agg #[c.c0, c.c1, c.c2, c.c3, c.c4]] w fun e w' => ∃ c' : C5, e = .returned (.agg #[c'.c0, c'.c1, c'.c2, c'.c3, c'.c4]) ∧ Rep (New w w') w' t c' ∧ Below w.heap.size w w' :=
  toTree_all (tsz t + 1) t (by omega) P c w hP hrep hwt
end Go.Proofs.YtbigchdhpdgicaaDoor

/- The walks of eqStringS, eqTree, eqTreeS: of two trees that lie in memory as one and the same they answer true, and turn nothing that was there. No conditions. -/

namespace Go.Proofs.YtbigchdhpdgicaaDoor
open Go Go.RowKit

def EqSaid (n : Nat) : Prop := ∀ (t : Tr), tsz t < n → ∀ (P Q : Nat → Prop) (c d : C5) (w : World), (∀ b, P b → b < w.heap.size) → (∀ b, Q b → b < w.heap.size) → Rep P w t c → Rep Q w t d →
    Calls Tryd.prog 37 #[.agg #[c.c0, c.c1, c.c2, c.c3, c.c4], .agg #[d.c0, d.c1, d.c2, d.c3, d.c4]] w fun e w' => e = .returned (.bool true) ∧ Below w.heap.size w w'

set_option maxHeartbeats 400000 in
theorem eqTreeS_any (n : Nat) (IH : EqSaid n) (t : Tr) (hn : tsz t ≤ n) (P Q : Nat → Prop) (a a2 : Option Addr) (cap cap2 : Nat) (w : World) (hP : ∀ b, P b → b < w.heap.size) (hQ : ∀ b, Q b → b < w.heap.size)
    (hlen : t.kids.length ≤ 9223372036854775807)
    (hc : ∀ i, (hi : i < t.kids.length) → ∃ b o c, a = some ⟨b, o, none⟩ ∧ P b ∧ C5.at w b (o + i * 5) c ∧ Rep P w t.kids[i] c)
    (hc2 : ∀ i, (hi : i < t.kids.length) → ∃ b o c, a2 = some ⟨b, o, none⟩ ∧ Q b ∧ C5.at w b (o + i * 5) c ∧ Rep Q w t.kids[i] c) :
    Calls Tryd.prog 50 #[.slice a t.kids.length cap, .slice a2 t.kids.length cap2] w fun e w' => e = .returned (.bool true) ∧ Below w.heap.size w w' := by
  generalize hks : t.kids = ks at *
  have HK := hide hks; clear hks
  have HC := hide hc; clear hc
  have HC2 := hide hc2; clear hc2
  have HP := hide hP; clear hP
  have HQ := hide hQ; clear hQ
  have HI := hide IH; clear IH
  go_enter Tryd.func50, Tryd.ntmps50
  go_wp2_with fail
  go_loopw [5] (fun i wr => ∃ (k : Nat), k ≤ ks.length ∧ i = .int .i64 k ∧ Below w.heap.size w wr) (fun i _ => ks.length - (intOf i).toNat)
  case atStart => exact ⟨0, Nat.zero_le _, rfl, Below.refl _ _⟩
  case round =>
    obtain ⟨k, hk, rfl, hb⟩ := hrel
    by_cases hlt : k < ks.length
    · obtain ⟨b, o, c, rfl, hpb, hcell, hrep⟩ := unhide HC k hlt
      obtain ⟨b2, o2, d, rfl, hpb2, hcell2, hrep2⟩ := unhide HC2 k hlt
      have hcell' := hcell.carry (hb.block b (unhide HP b hpb))
      have hcell2' := hcell2.carry (hb.block b2 (unhide HQ b2 hpb2))
      obtain ⟨c0, c1, c2, c3, c4⟩ := c
      obtain ⟨d0, d1, d2, d3, d4⟩ := d
      obtain ⟨e0, e1, e2, e3, e4⟩ := hcell'
      obtain ⟨g0, g1, g2, g3, g4⟩ := hcell2'
      simp only at e0 e1 e2 e3 e4 g0 g1 g2 g3 g4
      have hmem : ks[k] ∈ t.kids := by rw [unhide HK]; exact List.getElem_mem hlt
      have hsm : tsz ks[k] < n := by have := tsz_kid hmem; omega
      have hcall := unhide HI ks[k] hsm P Q ⟨c0, c1, c2, c3, c4⟩ ⟨d0, d1, d2, d3, d4⟩ wr.drew (fun b hb' => Nat.lt_of_lt_of_le (unhide HP b hb') hb.size) (fun b hb' => Nat.lt_of_lt_of_le (unhide HQ b hb') hb.size) (Rep.carry (w' := wr.drew) (fun b hb' => hb.drew.block b (unhide HP b hb')) (fun _ h => h) _ _ hrep) (Rep.carry (w' := wr.drew) (fun b hb' => hb.drew.block b (unhide HQ b hb')) (fun _ h => h) _ _ hrep2)
      have HCALL := hide hcall
      clear hrep hcell hpb hrep2 hcell2 hpb2 hmem hcall HC HC2
      go_wp2_with fail
      go_region_with (go_at_call 37; refine (unhide HCALL).mono ?_; rintro e w' ⟨rfl, hb'⟩)
      all_goals
        have hb2 := hb.drew.trans (hb'.mono hb.drew.size)
        go_wp2_with fail
        go_roundw
        case rel => exact ⟨k + 1, by omega, by go_num, hb2⟩
        case measure => simp [intOf]; omega
    · go_wp2_with fail
      go_ret
      exact ⟨rfl, hb⟩

set_option maxHeartbeats 400000 in
theorem eqTree_step (n : Nat) (IH : EqSaid n) : EqSaid (n + 1) := by
  intro t hn P Q c d w hP hQ hrep hrep2
  obtain ⟨c0, c1, c2, c3, c4⟩ := c
  obtain ⟨d0, d1, d2, d3, d4⟩ := d
  obtain ⟨e0, e1, e2, -, -, -, hns, a, cap, e4, hlen, hks⟩ := hrep.open
  obtain ⟨g0, g1, g2, -, -, -, hns2, a2, cap2, g4, -, hks2⟩ := hrep2.open
  simp only at e0 e1 e2 e4 hns g0 g1 g2 g4 hns2
  subst e0 e1 e2 e4 g0 g1 g2 g4
  have HP := hide hP; have HK := hide hks; have HN := hide hns; have HI := hide IH; have HQ := hide hQ; have HK2 := hide hks2; have HN2 := hide hns2
  clear hP hQ hks hns hks2 hns2 IH hrep hrep2
  have hbx : ∀ o o2, Below w.heap.size w ((w.alloc o).alloc o2) := fun o o2 => ((Below.refl _ _).alloc (Nat.le_refl _) o).alloc (by simp) o2
  have HBX := hide hbx; clear hbx
  go_enter Tryd.func37, Tryd.ntmps37
  go_wp2_with fail
  refine (eqStringS_any c3 d3 t.names _ (P := P) (Q := Q) ((unhide HN).carry (fun b hb => (unhide HBX _ _).block b (unhide HP b hb)) (fun _ h => h)) ((unhide HN2).carry (fun b hb => (unhide HBX _ _).block b (unhide HQ b hb)) (fun _ h => h)) (fun b hb => Nat.lt_of_lt_of_le (unhide HP b hb) (unhide HBX _ _).size) (fun b hb => Nat.lt_of_lt_of_le (unhide HQ b hb) (unhide HBX _ _).size)).mono ?_
  rintro e w1 ⟨rfl, hb1⟩
  obtain ⟨q0, q1, hsz1, hb01⟩ := box2 hb1
  have k0 := q0.cell (i := 4) (by omega)
  have k1 := q1.cell (i := 4) (by omega)
  simp only [row5] at k0 k1
  have HB1 := hide hb01
  clear hb1 q0 q1 hb01
  go_wp2_with fail
  refine (eqTreeS_any n (unhide HI) t (by omega) P Q a a2 cap cap2 w1 (fun b hb => Nat.lt_of_lt_of_le (unhide HP b hb) (unhide HB1).size) (fun b hb => Nat.lt_of_lt_of_le (unhide HQ b hb) (unhide HB1).size) hlen (fun i hi => ?_) (fun i hi => ?_)).mono ?_
  · obtain ⟨b, o, c, h1, h2, h3, h4⟩ := unhide HK i hi
    exact ⟨b, o, c, h1, h2, h3.carry ((unhide HB1).block b (unhide HP b h2)), Rep.carry (fun b hb => (unhide HB1).block b (unhide HP b hb)) (fun _ h => h) _ _ h4⟩
  · obtain ⟨b, o, c, h1, h2, h3, h4⟩ := unhide HK2 i hi
    exact ⟨b, o, c, h1, h2, h3.carry ((unhide HB1).block b (unhide HQ b h2)), Rep.carry (fun b hb => (unhide HB1).block b (unhide HQ b hb)) (fun _ h => h) _ _ h4⟩
  rintro e w2 ⟨rfl, hb2⟩
  have hb3 := (unhide HB1).trans (hb2.mono (unhide HB1).size)
  go_wp2_with fail
  go_ret
  exact ⟨rfl, hb3⟩

theorem eqTree_all : ∀ n, EqSaid n
  | 0 => fun t h => by omega
  | n + 1 => eqTree_step n (eqTree_all n)

theorem eqTree_any (t : Tr) (P Q : Nat → Prop) (c d : C5) (w : World) (hP : ∀ b, P b → b < w.heap.size) (hQ : ∀ b, Q b → b < w.heap.size) (h1 : Rep P w t c) (h2 : Rep Q w t d) :
    Calls Tryd.prog 37 #[.agg #[c.c0, c.c1, c.c2, c.c3, c.c4], .agg #[d.c0, d.c1, d.c2, d.c3, d.c4]] w fun e w' => e = .returned (.bool true) ∧ Below w.heap.size w w' :=
  eqTree_all (tsz t + 1) t (by omega) P Q c d w hP hQ h1 h2
end Go.Proofs.YtbigchdhpdgicaaDoor

/- The walk of the law's own eqEvent: two events that are the same. No conditions. -/

namespace Go.Proofs.YtbigchdhpdgicaaDoor
open Go Go.RowKit

set_option maxRecDepth 100000 in
set_option maxHeartbeats 1600000 in
theorem eqEvent_any (ty : ByteArray) (ver : Int) (t : Tr) (P Q : Nat → Prop) (c d : C5) (w : World) (hP : ∀ b, P b → b < w.heap.size) (hQ : ∀ b, Q b → b < w.heap.size) (h1 : Rep P w t c) (h2 : Rep Q w t d) :
    Calls Tryd.prog 27 #[.agg #[.string ty, .int .i64 ver, c.c0, c.c1, c.c2, c.c3, c.c4], .agg #[.string ty, .int .i64 ver, d.c0, d.c1, d.c2, d.c3, d.c4]] w fun e w' => e = .returned (.bool true) ∧ Below w.heap.size w w' := by
  obtain ⟨c0, c1, c2, c3, c4⟩ := c
  obtain ⟨d0, d1, d2, d3, d4⟩ := d
  have hbx : ∀ o o2, Below w.heap.size w ((w.alloc o).alloc o2) := fun o o2 => ((Below.refl _ _).alloc (Nat.le_refl _) o).alloc (by simp) o2
  have hcall := fun (W : World) (hW : Below w.heap.size w W) => eqTree_any t P Q ⟨c0, c1, c2, c3, c4⟩ ⟨d0, d1, d2, d3, d4⟩ W (fun b hb => Nat.lt_of_lt_of_le (hP b hb) hW.size) (fun b hb => Nat.lt_of_lt_of_le (hQ b hb) hW.size) (Rep.carry (fun b hb => hW.block b (hP b hb)) (fun _ h => h) _ _ h1) (Rep.carry (fun b hb => hW.block b (hQ b hb)) (fun _ h => h) _ _ h2)
  have HBX := hide hbx; have HCALL := hide hcall
  clear hbx hcall hP hQ h1 h2
  go_enter Tryd.func27, Tryd.ntmps27
  go_wp2_with fail
  refine (unhide HCALL _ (unhide HBX _ _)).mono ?_
  rintro e w1 ⟨rfl, hb1⟩
  have hb2 := (unhide HBX _ _).trans (hb1.mono (unhide HBX _ _).size)
  have HB := hide hb2
  clear hb1 hb2
  go_wp2_with fail
  go_ret
  exact ⟨rfl, unhide HB⟩
end Go.Proofs.YtbigchdhpdgicaaDoor
