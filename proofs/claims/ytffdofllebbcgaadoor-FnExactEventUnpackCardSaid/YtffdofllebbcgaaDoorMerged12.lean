/- The walks of toTree, toTreeS once more: the copy that they make lies in new blocks of which nothing is frozen. No conditions but the tree's weight, at most 2^20. -/
import Derived.Test.YtffdofllebbcgaaDoorWTo
import Derived.Test.YtffdofllebbcgaaDoorMerged11
import Derived.Test.YtffdofllebbcgaaDoorRows
import Derived.Test.YtffdofllebbcgaaDoorMerged00
import Derived.Lib.ItoaNum
import Derived.Lib.ItoaLen
import Derived.Lib.ItoaMem
import Derived.Deep.RegionWith
import Derived.WalkSmall
namespace Go.Proofs.YtffdofllebbcgaaDoor
open Go Go.RowKit

def ToTSaid (n : Nat) : Prop := ∀ (t : Tr), tsz t < n → ∀ (P : Nat → Prop) (c : C5) (w : World), (∀ b, P b → b < w.heap.size) → Rep P w t c → wT t ≤ 1048576 →
    Calls Tryd.prog 25 #[.agg #[c.c0, c.c1, c.c2, c.c3, c.c4]] w fun e w' => ∃ c' : C5, e = .returned (.agg #[c'.c0, c'.c1, c'.c2, c'.c3, c'.c4]) ∧ Rep (NewF w w') w' t c' ∧ Below w.heap.size w w'

/-- What the loop of toTreeS has laid after k rounds: the row, and the trees that its first cells are. -/
def TLaid (w wr : World) (ks : List Tr) (k : Nat) : Prop :=
  ∃ f, wr.rowIs w.heap.size 32 (ks.length * 5) f ∧ ∀ j, j < k → (hj : j < ks.length) → ∃ c : C5, f (j * 5) = c.c0 ∧ f (j * 5 + 1) = c.c1 ∧ f (j * 5 + 2) = c.c2 ∧ f (j * 5 + 3) = c.c3 ∧ f (j * 5 + 4) = c.c4 ∧
    Rep (fun b => (w.heap.size + 1 ≤ b ∧ b < wr.heap.size) ∧ FreeB wr b) wr ks[j] c

theorem TLaid.step {w wr w' : World} {ks : List Tr} {k : Nat} (hlt : k < ks.length) (hL : TLaid w wr ks k) (hb' : Below wr.heap.size wr w') (c : C5) (hr : Rep (NewF wr w') w' ks[k] c) :
    TLaid w (((((w'.setCell ⟨w.heap.size, k * 5, none⟩ c.c0).setCell ⟨w.heap.size, k * 5 + 1, none⟩ c.c1).setCell ⟨w.heap.size, k * 5 + 2, none⟩ c.c2).setCell ⟨w.heap.size, k * 5 + 3, none⟩ c.c3).setCell ⟨w.heap.size, k * 5 + 4, none⟩ c.c4) ks (k + 1) := by
  obtain ⟨f, hrow, hf⟩ := hL
  have hlt0 := hrow.lt
  have hrow' := hrow.of_block (hb'.block _ hrow.lt)
  have hs := hb'.size
  refine ⟨_, ((((hrow'.set (k * 5) c.c0).set (k * 5 + 1) c.c1).set (k * 5 + 2) c.c2).set (k * 5 + 3) c.c3).set (k * 5 + 4) c.c4, fun j hj hjl => ?_⟩
  by_cases e : j = k
  · subst e
    refine ⟨c, by simp, by simp, by simp, by simp, by simp, ?_⟩
    refine Rep.carry (fun b hb => heap_set5 _ _ _ _ _ _ _ _ _ (by have := hb.1.1; omega)) (fun b hb => ⟨?_, hb.2.of_block (heap_set5 _ _ _ _ _ _ _ _ _ (by have := hb.1.1; omega))⟩) _ _ hr
    simp only [size_setCell]
    have := hb.1.1; have := hb.1.2
    omega
  · obtain ⟨d, g0, g1, g2, g3, g4, hd⟩ := hf j (by omega) hjl
    refine ⟨d, ?_, ?_, ?_, ?_, ?_, ?_⟩
    · repeat rw [if_neg (by omega)]
      exact g0
    · repeat rw [if_neg (by omega)]
      exact g1
    · repeat rw [if_neg (by omega)]
      exact g2
    · repeat rw [if_neg (by omega)]
      exact g3
    · repeat rw [if_neg (by omega)]
      exact g4
    · refine Rep.carry (fun b hb => ?_) (fun b hb => ?_) _ _ hd
      · rw [heap_set5 _ _ _ _ _ _ _ _ _ (by omega), hb'.block b hb.1.2]
      · exact ⟨by simp only [size_setCell]; omega, hb.2.of_block (by rw [heap_set5 _ _ _ _ _ _ _ _ _ (by omega), hb'.block b hb.1.2])⟩

theorem TLaid.done {w wr : World} {ks : List Tr} (hL : TLaid w wr ks ks.length) : NewF w wr w.heap.size ∧ RepK (NewF w wr) wr w.heap.size 0 ks := by
  obtain ⟨f, hrow, hf⟩ := hL
  refine ⟨⟨⟨Nat.le_refl _, hrow.lt⟩, fun o => hrow.frozen o⟩, RepK.mk fun i hi => ?_⟩
  obtain ⟨d, g0, g1, g2, g3, g4, hd⟩ := hf i hi hi
  refine ⟨d, ?_, Rep.carry (fun _ _ => rfl) (fun b hb => ⟨⟨by omega, hb.1.2⟩, hb.2⟩) _ _ hd⟩
  simp only [Nat.zero_add, C5.at]
  rw [hrow.cell (i := i * 5) (by omega), hrow.cell (i := i * 5 + 1) (by omega), hrow.cell (i := i * 5 + 2) (by omega), hrow.cell (i := i * 5 + 3) (by omega), hrow.cell (i := i * 5 + 4) (by omega), g0, g1, g2, g3, g4]
  exact ⟨rfl, rfl, rfl, rfl, rfl⟩

set_option maxHeartbeats 400000 in
theorem toTreeS_free (n : Nat) (IH : ToTSaid n) (t : Tr) (hn : tsz t ≤ n) (P : Nat → Prop) (a : Option Addr) (cap : Nat) (w : World) (hP : ∀ b, P b → b < w.heap.size)
    (hlen : t.kids.length ≤ 1048576) (hwt : wK t.kids ≤ 1048576)
    (hc : ∀ i, (hi : i < t.kids.length) → ∃ b o c, a = some ⟨b, o, none⟩ ∧ P b ∧ C5.at w b (o + i * 5) c ∧ Rep P w t.kids[i] c) :
    Calls Tryd.prog 48 #[.slice a t.kids.length cap] w fun e w' => ∃ b, e = .returned (.slice (some ⟨b, 0, none⟩) t.kids.length t.kids.length) ∧ NewF w w' b ∧ RepK (NewF w w') w' b 0 t.kids ∧ Below w.heap.size w w' := by
  generalize hks : t.kids = ks at *
  have HK := hide hks; clear hks
  have HC := hide hc; clear hc
  have HP := hide hP; clear hP
  have HI := hide IH; clear IH
  have HW := hide hwt; clear hwt
  have hmk := run_make_tree ks.length hlen
  go_enter Tryd.func48, Tryd.ntmps48
  go_wp2_with fail
  clear hmk
  go_loopw [4] (fun i wr => ∃ (k : Nat), k ≤ ks.length ∧ i = .int .i64 k ∧ Hid (TLaid w wr ks k) ∧ Below w.heap.size w wr) (fun i _ => ks.length - (intOf i).toNat)
  case atStart =>
    have hrow := World.rowIs_alloc w (madeCells z5 (ks.length * 5)) 32 (fun i => (madeCells z5 (ks.length * 5))[i]?.getD undef) (fun i hi => by simp [hi])
    rw [size_madeCells] at hrow
    exact ⟨0, Nat.zero_le _, rfl, hide ⟨_, hrow, fun j hj => by omega⟩, (Below.refl _ _).alloc (Nat.le_refl _) _⟩
  case round =>
    obtain ⟨k, hk, rfl, HL, hb⟩ := hrel
    by_cases hlt : k < ks.length
    · obtain ⟨b, o, c, rfl, hpb, hcell, hrep⟩ := unhide HC k hlt
      have hcell' := hcell.carry (hb.block b (unhide HP b hpb))
      obtain ⟨c0, c1, c2, c3, c4⟩ := c
      obtain ⟨e0, e1, e2, e3, e4⟩ := hcell'
      simp only at e0 e1 e2 e3 e4
      have HR := hide hrep; clear hrep hcell hpb
      have hmem : ks[k] ∈ t.kids := by rw [unhide HK]; exact List.getElem_mem hlt
      have hsm : tsz ks[k] < n := by have := tsz_kid hmem; omega
      have hwk : wT ks[k] ≤ 1048576 := by have := wK_mem (List.getElem_mem hlt); have := unhide HW; omega
      clear hmem
      go_wp2_with fail
      refine (unhide HI ks[k] hsm P ⟨c0, c1, c2, c3, c4⟩ wr (fun b hb' => Nat.lt_of_lt_of_le (unhide HP b hb') hb.size) (Rep.carry (fun b hb' => hb.block b (unhide HP b hb')) (fun _ h => h) _ _ (unhide HR)) hwk).mono ?_
      rintro e w' ⟨⟨d0, d1, d2, d3, d4⟩, rfl, hr, hb'⟩
      clear e0 e1 e2 e3 e4
      obtain ⟨f, hrow, hf⟩ := HL.out
      have hrow' := hrow.of_block (hb'.block _ hrow.lt)
      have HR' := hide hr; have HB' := hide hb'
      have z0 := hrow'.frozen (k * 5)
      have z1 := hrow'.frozen (k * 5 + 1)
      have z2 := hrow'.frozen (k * 5 + 2)
      have z3 := hrow'.frozen (k * 5 + 3)
      have z4 := hrow'.frozen (k * 5 + 4)
      have y0 := hrow'.cell (i := k * 5) (by omega)
      have y1 := hrow'.cell (i := k * 5 + 1) (by omega)
      have y2 := hrow'.cell (i := k * 5 + 2) (by omega)
      have y3 := hrow'.cell (i := k * 5 + 3) (by omega)
      have y4 := hrow'.cell (i := k * 5 + 4) (by omega)
      obtain ⟨g0, g1, g2, -, -, -, ⟨a3, cap3, g3, -⟩, a4, cap4, g4, -⟩ := hr.open
      simp only at g0 g1 g2 g3 g4
      subst g0 g1 g2 g3 g4
      clear hf hrow hrow' hr hb'
      go_wp2_with fail
      go_roundw
      case rel =>
        have hst := TLaid.step hlt HL.out HB'.out _ HR'.out
        have hb3 := hb.trans (HB'.out.mono hb.size)
        refine ⟨k + 1, by omega, by go_num, hst, ?_⟩
        exact ((((hb3.setCell (Nat.le_refl _) _).setCell (Nat.le_refl _) _).setCell (Nat.le_refl _) _).setCell (Nat.le_refl _) _).setCell (Nat.le_refl _) _
      case measure => simp [intOf]; omega
    · go_wp2_with fail
      go_ret
      obtain rfl : k = ks.length := by omega
      exact ⟨w.heap.size, rfl, HL.out.done.1, HL.out.done.2, hb⟩

set_option maxHeartbeats 400000 in
theorem toTreeF_step (n : Nat) (IH : ToTSaid n) : ToTSaid (n + 1) := by
  intro t hn P c w hP hrep hwt
  obtain ⟨c0, c1, c2, c3, c4⟩ := c
  obtain ⟨e0, e1, e2, hi0, hi1, htx, hns, a, cap, e4, hlen, hks⟩ := hrep.open
  simp only at e0 e1 e2 e4 hns
  subst e0 e1 e2 e4
  have hw : wT t = t.text.size + wS t.names + wK t.kids := by obtain ⟨s, n, tx, ns, ks⟩ := t; rfl
  have hl1 := wS_len t.names
  have hl2 := wK_len t.kids
  have hnl : t.names.length ≤ 1048576 := by omega
  have hkl : t.kids.length ≤ 1048576 := by omega
  have hkw : wK t.kids ≤ 1048576 := by omega
  clear hl1 hl2 hw hwt
  have HP := hide hP; have HK := hide hks; have HN := hide hns; have HI := hide IH; have H0 := hide hi0; have H1 := hide hi1; have HKW := hide hkw
  clear hP hks hns IH hrep hi0 hi1 hkw
  have hbx : ∀ o o2 o3, Below w.heap.size w (((w.alloc o).alloc o2).alloc o3) := fun o o2 o3 => (((Below.refl _ _).alloc (Nat.le_refl _) o).alloc (by simp) o2).alloc (by simp; omega) o3
  have HBX := hide hbx; clear hbx
  go_enter Tryd.func25, Tryd.ntmps25
  go_wp2_with fail
  refine (toStringS_free c3 t.names _ (P := P) (fun b hb => Nat.lt_of_lt_of_le (unhide HP b hb) (unhide HBX _ _ _).size) ((unhide HN).carry (fun b hb => (unhide HBX _ _ _).block b (unhide HP b hb)) (fun _ h => h)) hnl).mono ?_
  rintro e w1 ⟨v', rfl, ⟨a', rfl⟩, hs, hb1⟩
  obtain ⟨q0, q1, q2, hsz1, hb01⟩ := box3 hb1
  have k0 := q0.cell (i := 4) (by omega)
  have f2 := q2.frozen 3
  have k2 := q2.cell (i := 3) (by omega)
  simp only [row5] at k0 k2
  have HS := hide hs; have HB1 := hide hb01; have Q1 := hide q1; have Q2 := hide q2
  clear hs hb1 hb01 q0 q1 q2
  go_wp2_with fail
  have q2 := (unhide Q2).set 3 (.slice a' t.names.length t.names.length)
  have q1 := (unhide Q1).setOther (a := ⟨w.heap.size + 1 + 1, 3, none⟩) (by simp) (.slice a' t.names.length t.names.length)
  have hb2 := (unhide HB1).setCell (p := ⟨w.heap.size + 1 + 1, 3, none⟩) (by simp; omega) (.slice a' t.names.length t.names.length)
  refine (toTreeS_free n (unhide HI) t (by omega) P a cap _ (fun b hb => Nat.lt_of_lt_of_le (unhide HP b hb) hb2.size) hkl (unhide HKW) (fun i hi => ?_)).mono ?_
  · obtain ⟨b, o, c, h1, h2, h3, h4⟩ := unhide HK i hi
    exact ⟨b, o, c, h1, h2, h3.carry (hb2.block b (unhide HP b h2)), Rep.carry (fun b hb => hb2.block b (unhide HP b hb)) (fun _ h => h) _ _ h4⟩
  rintro e w3 ⟨bk, rfl, hbk, hrk, hb3⟩
  have hsz2 : (w1.setCell ⟨w.heap.size + 1 + 1, 3, none⟩ (.slice a' t.names.length t.names.length)).heap.size = w1.heap.size := size_setCell _ _ _
  have p1 := q1.of_block (hb3.block _ (by omega))
  have p2 := q2.of_block (hb3.block _ (by omega))
  have hb03 := hb2.trans (hb3.mono hb2.size)
  have hblk : ∀ b, w.heap.size + 3 ≤ b → b < w1.heap.size → w3.heap[b]? = w1.heap[b]? := fun b h1 h2 => by
    rw [hb3.block b (by rw [hsz2]; exact h2), Below.heap_setCell _ _ _ _ (by simp; omega)]
  have hs3 : StrsAt (fun b => (w.heap.size + 3 ≤ b ∧ b < w1.heap.size) ∧ FreeB w3 b) w3 (.slice a' t.names.length t.names.length) t.names :=
    (unhide HS).carry (fun b hb => hblk b (by have := hb.1.1; simpa using this) hb.1.2) (fun b hb => ⟨⟨by have := hb.1.1; simpa using this, hb.1.2⟩, hb.2.of_block (hblk b (by have := hb.1.1; simpa using this) hb.1.2)⟩)
  have hk3 : RepK (fun b => (w.heap.size + 3 ≤ b ∧ b < w3.heap.size) ∧ FreeB w3 b) w3 bk 0 t.kids :=
    RepK.carry (fun _ _ => rfl) (fun b hb => ⟨⟨by have := hb.1.1; omega, hb.1.2⟩, hb.2⟩) _ _ rfl _ hrk
  have hbk3 : (w.heap.size + 3 ≤ bk ∧ bk < w3.heap.size) ∧ FreeB w3 bk := ⟨⟨by have := hbk.1.1; omega, hbk.1.2⟩, hbk.2⟩
  have hs13 : w1.heap.size ≤ w3.heap.size := by have := hb3.size; omega
  have a0 := p1.cell (i := 0) (by omega); have a1 := p1.cell (i := 1) (by omega); have a2 := p1.cell (i := 2) (by omega); have a3 := p1.cell (i := 3) (by omega); have a4 := p1.cell (i := 4) (by omega)
  have b0 := p2.cell (i := 0) (by omega); have b1 := p2.cell (i := 1) (by omega); have b2 := p2.cell (i := 2) (by omega); have b3 := p2.cell (i := 3) (by omega); have b4 := p2.cell (i := 4) (by omega)
  have fa := p1.frozen; have fb := p2.frozen
  simp [row5] at a0 a1 a2 a3 a4 b0 b1 b2 b3 b4
  clear q1 q2 hb2 hbk hrk hblk hb3 hsz2 p1 p2 k0 k2 f2 Q1 Q2 HB1 HS HN HI HK HP HBX HKW
  have HS3 := hide hs3; have HK3 := hide hk3; have HBK3 := hide hbk3; have HB03 := hide hb03; have HS13 := hide hs13
  clear hs3 hk3 hbk3 hb03 hs13
  go_wp2_with fail
  refine bodyPost_ret (v := .agg #[.int .i64 t.sort, .int .i64 t.num, .string t.text, .slice a' t.names.length t.names.length, .slice (some ⟨bk, 0, none⟩) t.kids.length t.kids.length]) (by simp [results, Tryd.results25, go_sem, a0, a1, a2, a3, a4]) rfl ⟨⟨_, _, _, _, _⟩, rfl, ?_, ?_⟩
  · refine Rep.make (unhide H0) (unhide H1) htx ((unhide HS3).carry (fun b hb => ?_) (fun b hb => ?_)) hlen ?_ (RepK.carry (P := fun b => (w.heap.size + 3 ≤ b ∧ b < w3.heap.size) ∧ FreeB w3 b) (fun b hb => ?_) (fun b hb => ?_) _ _ ?_ _ (unhide HK3))
    · exact heap_set6 _ _ _ _ _ _ _ _ _ _ (by omega) (by omega)
    · have := unhide HS13; exact ⟨⟨by omega, by simp only [size_setCell]; omega⟩, hb.2.of_block (heap_set6 _ _ _ _ _ _ _ _ _ _ (by omega) (by omega))⟩
    · have := (unhide HBK3).1; exact ⟨⟨by omega, by simp only [size_setCell]; omega⟩, (unhide HBK3).2.of_block (heap_set6 _ _ _ _ _ _ _ _ _ _ (by omega) (by omega))⟩
    · exact heap_set6 _ _ _ _ _ _ _ _ _ _ (by omega) (by omega)
    · exact ⟨⟨by omega, by simp only [size_setCell]; omega⟩, hb.2.of_block (heap_set6 _ _ _ _ _ _ _ _ _ _ (by omega) (by omega))⟩
    · have := (unhide HBK3).1; exact heap_set6 _ _ _ _ _ _ _ _ _ _ (by omega) (by omega)
  · exact ((((((unhide HB03).setCell (by simp; omega) _).setCell (by simp) _).setCell (by simp) _).setCell (by simp) _).setCell (by simp) _).setCell (by simp) _

theorem toTreeF_all : ∀ n, ToTSaid n
  | 0 => fun t h => by omega
  | n + 1 => toTreeF_step n (toTreeF_all n)

theorem toTree_free (t : Tr) (P : Nat → Prop) (c : C5) (w : World) (hP : ∀ b, P b → b < w.heap.size) (hrep : Rep P w t c) (hwt : wT t ≤ 1048576) :
    Calls Tryd.prog 25 #[.agg #[c.c0, c.c1, c.c2, c.c3, c.c4]] w fun e w' => ∃ c' : C5, e = .returned (.agg #[c'.c0, c'.c1, c'.c2, c'.c3, c'.c4]) ∧ Rep (NewF w w') w' t c' ∧ Below w.heap.size w w' :=
  toTreeF_all (tsz t + 1) t (by omega) P c w hP hrep hwt
end Go.Proofs.YtffdofllebbcgaaDoor

/- Digits as bytes and strings; small laws. No program walked, no conditions. -/

namespace Go.Proofs.YtffdofllebbcgaaDoor
open Go Go.RowKit

/-- A digit's byte. -/
def dg (m : Int) : UInt8 := UInt8.ofNat (48 + m.toNat)
theorem dg_nat {m : Int} (h0 : 0 ≤ m) (h1 : m < 10) : ((dg m).toNat : Int) = 48 + m := by unfold dg; rw [UInt8.toNat_ofNat']; omega
theorem dec_small {n : Int} (h : n < 10) : Lib.decDigits n.toNat = [dg n] := by rw [Lib.decDigits, dif_pos (by omega)]; rfl
theorem dec_big {n : Int} (h : ¬ n < 10) : Lib.decDigits n.toNat = Lib.decDigits (n / 10).toNat ++ [dg (n % 10)] := by
  rw [Lib.decDigits, dif_neg (by omega), show (n / 10).toNat = n.toNat / 10 from by omega, show dg (n % 10) = UInt8.ofNat (48 + n.toNat % 10) from by unfold dg; rw [show (n % 10).toNat = n.toNat % 10 from by omega]]

/-- One byte, as a string. -/
theorem conv_one (W : World) (b cap : Nat) (m : Int) (h0 : 0 ≤ m) (h1 : m < 10) (hc : W.cell? ⟨b, 0, none⟩ = some (.int .u8 (48 + m))) :
    Sem.run Tryd.prog (convert 38 9 (.slice (some ⟨b, 0, none⟩) 1 cap)) W = .ok (.string ⟨#[dg m]⟩) W := by
  have := run_convert_bytes_back (P := Tryd.prog) W 38 9 5 ⟨b, 0, none⟩ cap [dg m] Tryd.underlying38 Tryd.underlying5 Tryd.underlying9 (fun j hj => by
    have hj0 : j = 0 := by simpa using hj
    subst hj0
    rw [Addr.add_lit, hc]
    simp only [List.getElem_cons_zero]
    rw [dg_nat h0 h1])
  simpa using this

theorem quo10 {n : Int} (h0 : 0 ≤ n) (h1 : n ≤ 999999999) : IntKind.i64.wrap (n.tdiv 10) = n / 10 := by
  rw [IntKind.wrap_i64, Int.tdiv_eq_ediv_of_nonneg h0]; omega
theorem rem10 {n : Int} (h0 : 0 ≤ n) : IntKind.i64.wrap (48 + n.tmod 10) = 48 + n % 10 := by
  rw [IntKind.wrap_i64, Int.tmod_eq_emod_of_nonneg h0]; omega
theorem rem10b (n : Int) : IntKind.u8.wrap (48 + n % 10) = 48 + n % 10 := by
  rw [IntKind.wrap_u8]; omega

theorem ba_append (a b : List UInt8) : ((⟨a.toArray⟩ : ByteArray) ++ (⟨b.toArray⟩ : ByteArray)) = ⟨(a ++ b).toArray⟩ := by
  apply ByteArray.ext
  simp
theorem ret_str {a b : ByteArray} (h : a = b) : Ending.returned (.string a) = .returned (.string b) := by rw [h]
theorem bc1 {w w1 : World} {o : Obj} (h : Below w.drew.heap.size w.drew w1) : Below w.heap.size w (w1.alloc o) :=
  (((Below.refl _ w).drew).trans h).alloc h.size o
theorem bc2 {w w1 : World} {o : Obj} (h : Below (w.alloc o).drew.heap.size (w.alloc o).drew w1) : Below w.heap.size w w1 :=
  (((Below.refl _ w).alloc (Nat.le_refl _) o).drew).trans (h.mono (by simp))
end Go.Proofs.YtffdofllebbcgaaDoor
