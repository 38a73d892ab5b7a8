/- The walk of the program's LogPlanRead: it gives the plan whose text it is, if there is one. Conditions: the text is bounded; strings' bound is some number, strconv's two errors are some errors; the table of powers is as strconv's text lays it. -/
import Derived.Test.YtcnkkegpckibbaaDoorPart11
import Derived.Test.YtcnkkegpckibbaaDoorRows
import Derived.Test.YtcnkkegpckibbaaDoorPart09
import Derived.Test.YtcnkkegpckibbaaDoorPart00
import Derived.Test.YtcnkkegpckibbaaDoorPart10
import Derived.Deep.RegionWith
import Derived.Handy
namespace Go.Proofs.YtcnkkegpckibbaaDoor
open Go Go.RowKit Go.Shelf

theorem rd_fold {X : List UInt8} {l' : Pl} (h : plOk l') (e : plT l' = X) : foldP ⟨[], 0, 0⟩ (lnsT X) = some l' := by rw [← e]; exact foldP_plT h
/-- The plan that the lines said, in its box, beside the result's. -/
structure LR (w W : World) (g : Nat) (l : Pl) (a : Option Addr) (cap : Nat) (F : List Nat) : Prop where
  bel : Below w.heap.size w W
  b2 : W.rowIs w.heap.size 25 3 (row3 (.slice none 0 0) (.int .i64 0) (.int .i64 0))
  b4 : W.rowIs g 25 3 (row3 (.slice a l.parts.length cap) (.int .i64 l.op) (.int .i64 l.fi))
  own : FlatOwn W (.slice a l.parts.length cap) 4 (l.parts.map Pt.cs) F
  lts : ∀ b, b ∈ F → w.heap.size < b ∧ b < g
theorem LR.lt {w W : World} {g : Nat} {l : Pl} {a : Option Addr} {cap : Nat} {F : List Nat} (h : LR w W g l a cap F) (b : Nat) (hb : b ∈ F) : b < W.heap.size := Nat.lt_trans (h.lts b hb).2 h.b4.lt
theorem LR.on {w W W' : World} {g : Nat} {l : Pl} {a : Option Addr} {cap : Nat} {F : List Nat} (h : LR w W g l a cap F) (hb : Below W.heap.size W W') : LR w W' g l a cap F :=
  ⟨h.bel.trans (hb.mono h.bel.size), h.b2.of_block (hb.block _ h.b2.lt), h.b4.of_block (hb.block _ h.b4.lt), FlatOwn.carry h.own (fun b hF => hb.block b (h.lt b hF)), h.lts⟩
theorem LR.sto {w W : World} {g : Nat} {l : Pl} {a : Option Addr} {cap : Nat} {F : List Nat} (h : LR w W g l a cap F) (x y z : Value) : Below w.heap.size w (((W.setCell ⟨w.heap.size, 0, none⟩ x).setCell ⟨w.heap.size, 1, none⟩ y).setCell ⟨w.heap.size, 2, none⟩ z) ∧ (∃ F', FlatOwn (((W.setCell ⟨w.heap.size, 0, none⟩ x).setCell ⟨w.heap.size, 1, none⟩ y).setCell ⟨w.heap.size, 2, none⟩ z) (.slice a l.parts.length cap) 4 (l.parts.map Pt.cs) F' ∧ ∀ b, b ∈ F' → w.heap.size ≤ b ∧ b < (((W.setCell ⟨w.heap.size, 0, none⟩ x).setCell ⟨w.heap.size, 1, none⟩ y).setCell ⟨w.heap.size, 2, none⟩ z).heap.size) := by
  refine ⟨((h.bel.setCell (by simp) _).setCell (by simp) _).setCell (by simp) _, F, FlatOwn.carry h.own (fun b hb => ?_), fun b hb => ?_⟩
  · have := (h.lts b hb).1
    rw [Below.heap_setCell _ _ _ _ (by simp; omega), Below.heap_setCell _ _ _ _ (by simp; omega), Below.heap_setCell _ _ _ _ (by simp; omega)]
  · have := (h.lts b hb).1
    have := h.lt b hb
    simp only [World.size_setCell]; omega
set_option maxRecDepth 100000 in
set_option maxHeartbeats 3200000 in
theorem implLogPlanRead_any (s : ByteArray) (w : World) (hs : s.size ≤ 1048576) (hE : EnvP w) (hG : gTopP ≤ w.heap.size) (htab : Lib.TabIs Tryd.prog w "internal/strconv.uint64pow10" .u64 Lib.pow10Tab) (hglob : 3 < w.heap.size) :
    Calls Tryd.prog 10 #[.string s] w fun e w' => RdEnd w w' e s.data.toList := by
  have hbx : ∀ o, Below w.heap.size w (w.alloc o) := fun o => (Below.refl _ _).alloc (Nat.le_refl _) o
  have HPI := hide (fun o => planIn_any s (w.alloc o) hs (hE.below (hbx o)) (Nat.le_trans hG (hbx o).size))
  have HT := hide htab; have HGL := hide hglob
  clear hE hG htab hglob
  go_enter Tryd.func10, Tryd.ntmps10
  go_wp2_with fail
  refine (unhide HPI _).mono ?_
  rintro e w1 ⟨hb1, ⟨l, v, ho, -, rfl, F, hF, hFl⟩ | ⟨ho, rfl⟩⟩
  · clear HPI
    obtain ⟨a, cap, rfl, hlen, -⟩ := (FlatOwn.at hF)
    rw [List.length_map] at hlen hF ⊢
    have hs1 := hb1.size
    rw [World.size_alloc] at hs1
    have hr1 := (row3_alloc w (.slice none 0 0) (.int .i64 0) (.int .i64 0) 25).of_block (hb1.block _ (by rw [World.size_alloc]; omega))
    have hB2 : ∀ o, Below w.heap.size w (w1.alloc o) := fun o => (((hbx _).trans (hb1.mono (hbx _).size)).alloc (by omega) o)
    have hrA : ∀ o, (w1.alloc o).rowIs w.heap.size 25 3 (row3 (.slice none 0 0) (.int .i64 0) (.int .i64 0)) := fun o => hr1.alloc o
    have hrB := row3_alloc w1 (.slice a l.parts.length cap) (.int .i64 l.op) (.int .i64 l.fi) 25
    have hFA : ∀ o, FlatOwn (w1.alloc o) (.slice a l.parts.length cap) 4 (l.parts.map Pt.cs) F := fun o => FlatOwn.carry hF (fun b hb => Below.heap_alloc _ _ _ (hFl b hb).2)
    have hFl2 : ∀ b, b ∈ F → w.heap.size < b ∧ b < w1.heap.size := fun b hb => ⟨by have := (hFl b hb).1; rw [World.size_alloc] at this; omega, (hFl b hb).2⟩
    have HST : Hid (LR w (w1.alloc (.cells #[.slice a l.parts.length cap, .int .i64 l.op, .int .i64 l.fi] 25)) w1.heap.size l a cap F) := ⟨hB2 _, hrA _, hrB, hFA _, hFl2⟩
    have HO := hide ho
    have hlt : w.heap.size < w1.heap.size := by omega
    clear hF hFl hb1 hr1 hB2 hrA hrB hFA hFl2 ho hbx hs1
    go_wp2_with fail
    refine (implLogPlanOk_any l _ (.slice a l.parts.length cap) _ (fun b hb => (unhide HST).lt b hb) (FlatOwn.at (unhide HST).own)).mono ?_
    rintro e w2 ⟨⟨r, rfl, hr⟩, hb2⟩
    have h2 := (unhide HST).on hb2
    have hT2 : Lib.TabIs Tryd.prog w2 "internal/strconv.uint64pow10" .u64 Lib.pow10Tab := tab_keep (unhide HT) (h2.bel.block _ (unhide HGL))
    have hG2 : 3 < w2.heap.size := Nat.lt_of_lt_of_le (unhide HGL) h2.bel.size
    have HT2 := hide hT2; have HG2 := hide hG2; have H2 := hide h2
    have c0 := h2.b4.cell (i := 0) (by omega); have c1 := h2.b4.cell (i := 1) (by omega); have c2 := h2.b4.cell (i := 2) (by omega)
    have m0 := h2.b2.cell (i := 0) (by omega); have m1 := h2.b2.cell (i := 1) (by omega); have m2 := h2.b2.cell (i := 2) (by omega)
    have f2 := h2.b2.frozen
    simp only [row3] at c0 c1 c2 m0 m1 m2
    clear HST hb2 HT HGL hT2 hG2 h2
    cases r with
    | false =>
      have HN := hide (show RdIs s.data.toList none from fun l' h1 h3 => by
        have := rd_fold h1 h3
        rw [unhide HO] at this
        cases this
        have := hr.2 h1
        cases this)
      clear hr
      go_wp2_with fail
      refine bodyPost_ret (v := .tuple #[.agg #[.slice none 0 0, .int .i64 0, .int .i64 0], .bool false]) (by simp [results, Tryd.results10, go_sem, m0, m1, m2]) rfl ?_
      exact Or.inr ⟨unhide HN, rfl, ((unhide H2).sto _ _ _).1⟩
    | true =>
      have hok := hr.1 rfl
      have HOK := hide hok
      clear hr
      go_wp2_with fail
      refine (implLogPlanWrite_any l _ (.slice a l.parts.length cap) w2 (fun b hb => (unhide H2).lt b hb) (FlatOwn.at (unhide H2).own) (unhide HT2) (unhide HG2)).mono ?_
      rintro e w3 ⟨rfl, hb3⟩
      have h3 := (unhide H2).on hb3
      have H3 := hide h3
      clear c0 c1 c2 m0 m1 m2 f2 H2 hb3 hok
      have c0 := h3.b4.cell (i := 0) (by omega); have c1 := h3.b4.cell (i := 1) (by omega); have c2 := h3.b4.cell (i := 2) (by omega)
      have m0 := h3.b2.cell (i := 0) (by omega); have m1 := h3.b2.cell (i := 1) (by omega); have m2 := h3.b2.cell (i := 2) (by omega)
      have f2 := h3.b2.frozen
      simp only [row3] at c0 c1 c2 m0 m1 m2
      clear h3
      by_cases hq : plW l = s
      · have hbn : ((plW l).toList == s.toList) = true := by rw [hq]; simp
        have HQ := hide (show RdIs s.data.toList (some l) from ⟨unhide HOK, by rw [← hq, plW_yes (unhide HOK)]⟩)
        clear hq
        go_wp2_with fail
        refine bodyPost_ret (v := .tuple #[.agg #[.slice a l.parts.length cap, .int .i64 l.op, .int .i64 l.fi], .bool true]) (by simp [results, Tryd.results10, go_sem, m0, m1, m2]) rfl ?_
        exact Or.inl ⟨l, .slice a l.parts.length cap, unhide HQ, rfl, ((unhide H3).sto _ _ _).2, ((unhide H3).sto _ _ _).1⟩
      · have hbn : ((plW l).toList == s.toList) = false := by have := neq_str.2 hq; simpa [bne] using this
        have HQ := hide (show RdIs s.data.toList none from fun l' h1 h3 => by
          have := rd_fold h1 h3
          rw [unhide HO] at this
          cases this
          refine hq ?_
          rw [plW_yes h1, h3])
        clear hq
        go_wp2_with fail
        refine bodyPost_ret (v := .tuple #[.agg #[.slice none 0 0, .int .i64 0, .int .i64 0], .bool false]) (by simp [results, Tryd.results10, go_sem, m0, m1, m2]) rfl ?_
        exact Or.inr ⟨unhide HQ, rfl, ((unhide H3).sto _ _ _).1⟩
  · have hs1 := hb1.size
    rw [World.size_alloc] at hs1
    have hr1 := (row3_alloc w (.slice none 0 0) (.int .i64 0) (.int .i64 0) 25).of_block (hb1.block _ (by rw [World.size_alloc]; omega))
    have hB2 : Below w.heap.size w w1 := (hbx _).trans (hb1.mono (hbx _).size)
    have HR1 := hide hr1
    have m0 := hr1.cell (i := 0) (by omega); have m1 := hr1.cell (i := 1) (by omega); have m2 := hr1.cell (i := 2) (by omega)
    have f2 := hr1.frozen
    simp only [row3] at m0 m1 m2
    have hlt : w.heap.size < w1.heap.size := by omega
    have HB2 := hide hB2
    have HN := hide (show RdIs s.data.toList none from fun l' h1 h3 => by
      have := rd_fold h1 h3
      rw [ho] at this
      cases this)
    clear HPI hr1 hB2 hbx hb1 ho hs1
    go_wp2_with fail
    have rA := (row3_pi2 (row3_pi1 (row3_set0 (unhide HR1) (.slice none 0 0)) (.int .i64 0)) (.int .i64 0)).alloc (.cells #[.slice none 0 0, .int .i64 0, .int .i64 0] 25)
    have e0 := rA.cell (i := 0) (by omega); have e1 := rA.cell (i := 1) (by omega); have e2 := rA.cell (i := 2) (by omega)
    simp only [row3] at e0 e1 e2
    refine bodyPost_ret (v := .tuple #[.agg #[.slice none 0 0, .int .i64 0, .int .i64 0], .bool false]) (by simp [results, Tryd.results10, go_sem, e0, e1, e2]) rfl ?_
    exact Or.inr ⟨unhide HN, rfl, ((((unhide HB2).setCell (by simp) _).setCell (by simp) _).setCell (by simp) _).alloc (by simp only [World.size_setCell]; omega) _⟩
end Go.Proofs.YtcnkkegpckibbaaDoor

/- The walks of markText and markStringS: the text of a mark; strings that own their memory are marked in place, and nothing else turns. For marks up to 2^40. -/

namespace Go.Proofs.YtcnkkegpckibbaaDoor
open Go Go.RowKit

end Go.Proofs.YtcnkkegpckibbaaDoor

/- The shape of a schema in memory: of what kind its cells are, whatever they hold; worlds whose cells are of the same kinds. Definitions and small laws, no program. No conditions. -/

namespace Go.Proofs.YtcnkkegpckibbaaDoor
open Go Go.RowKit




end Go.Proofs.YtcnkkegpckibbaaDoor

/- The walk of markStringS over a shape: it ends, and turns cells of the shape's own blocks alone, each into one of its kind. The marks count to at most 2^40. -/

namespace Go.Proofs.YtcnkkegpckibbaaDoor
open Go Go.RowKit

end Go.Proofs.YtcnkkegpckibbaaDoor

/- The walks of the law's markDiskFileS, markDiskMoveS, markDisk over a shape: they end, and turn cells of the shape's own blocks alone, each into one of its kind. The marks count to at most 2^40. -/

namespace Go.Proofs.YtcnkkegpckibbaaDoor
open Go Go.RowKit

end Go.Proofs.YtcnkkegpckibbaaDoor

/- The walks of the law's markDiskFileS, markDiskMoveS, markDisk over a disk that owns its memory: what is marked then, and that nothing else turns. The marks count to at most 2^40. -/

namespace Go.Proofs.YtcnkkegpckibbaaDoor
open Go Go.RowKit

/-- The cells of a block, none of them frozen. -/
def CellsAre (w : World) (b N : Nat) (f : Nat → Value) : Prop := FreeB w b ∧ ∀ q, q < N → w.cell? ⟨b, q, none⟩ = some (f q)
def partF (f g : Nat → Value) (p : Nat) : Nat → Value := fun q => if q < p then f q else g q
theorem CellsAre.step {w : World} {b N : Nat} {f g : Nat → Value} {p : Nat} (h : CellsAre w b N (partF f g p)) (hp : p < N) (u : Value) (hu : u = f p) : CellsAre (w.setCell ⟨b, p, none⟩ u) b N (partF f g (p + 1)) := by
  refine ⟨h.1.set _ _, fun q hq => ?_⟩
  by_cases e : q = p
  · subst e
    rw [World.cell?_setCell_same w _ u (h.2 q hq)]
    unfold partF; rw [if_pos (by omega), hu]
  · rw [World.cell?_setCell_other w _ _ u (by intro e2; cases e2; exact e rfl), h.2 q hq]
    unfold partF
    by_cases h2 : q < p
    · rw [if_pos h2, if_pos (by omega)]
    · rw [if_neg h2, if_neg (by omega)]

theorem FlatOwn.cells {w : World} {b n : Nat} {rs : List (List Value)} (h : ∀ i, (h : i < rs.length) → ∀ j, j < n → w.cell? ⟨b, i * n + j, none⟩ = some (rs[i].getD j undef)) (hf : FreeB w b) (hn : 0 < n) : CellsAre w b (rs.length * n) (fun q => (rs.getD (q / n) []).getD (q % n) undef) := by
  refine ⟨hf, fun q hq => ?_⟩
  have hi : q / n < rs.length := (Nat.div_lt_iff_lt_mul hn).2 hq
  have := h (q / n) hi (q % n) (Nat.mod_lt _ hn)
  rw [show q / n * n + q % n = q by rw [Nat.mul_comm]; exact Nat.div_add_mod q n] at this
  rw [this]
  simp [List.getD, hi]

end Go.Proofs.YtcnkkegpckibbaaDoor

/- The walks of the law's markLogPartS, heldLogPartS, markLogPlan, heldLogPlan over a plan that owns its memory. The marks count to at most 2^40. -/

namespace Go.Proofs.YtcnkkegpckibbaaDoor
open Go Go.RowKit

def mkQ (k q : Nat) : Value := .int .i64 ((k + q : Nat) : Int)
/-- Marked parts. -/
def mPs (k n : Nat) : List Pt := (List.range n).map fun i => ⟨((k + 4 * i : Nat) : Int), ((k + 4 * i + 1 : Nat) : Int), ((k + 4 * i + 2 : Nat) : Int), ((k + 4 * i + 3 : Nat) : Int)⟩
def PtsOwn (w : World) (v : Value) (ps : List Pt) (F : List Nat) : Prop := FlatOwn w v 4 (ps.map Pt.cs) F
theorem PtsOwn.carry {w w' : World} {v : Value} {ps : List Pt} {F : List Nat} (h : PtsOwn w v ps F) (hF : ∀ b, b ∈ F → w'.heap[b]? = w.heap[b]?) : PtsOwn w' v ps F := FlatOwn.carry h hF
theorem PtsOwn.at {w : World} {v : Value} {ps : List Pt} {F : List Nat} (h : PtsOwn w v ps F) : PtsAt (· ∈ F) w v ps := FlatOwn.at h
theorem ps_of_cells {w : World} {b cap n k : Nat} {g : Nat → Value} (hlen : n ≤ 9223372036854775807) (h : CellsAre w b (n * 4) (partF (mkQ k) g (n * 4))) : PtsOwn w (.slice (some ⟨b, 0, none⟩) n cap) (mPs k n) [b] := by
  refine ⟨some ⟨b, 0, none⟩, cap, by simp [mPs], by simpa [mPs] using hlen, Or.inr ⟨b, rfl, rfl, h.1, fun i hi j hj => ?_⟩⟩
  have hi' : i < n := by simpa [mPs] using hi
  rw [h.2 (i * 4 + j) (by omega)]
  unfold partF mkQ
  rw [if_pos (by omega)]
  rcases (show j = 0 ∨ j = 1 ∨ j = 2 ∨ j = 3 by omega) with rfl | rfl | rfl | rfl
  · simp [mPs, Pt.cs, Nat.mul_comm]
  · simp [mPs, Pt.cs, Nat.mul_comm, Nat.add_assoc]
  · simp [mPs, Pt.cs, Nat.mul_comm, Nat.add_assoc]
  · simp [mPs, Pt.cs, Nat.mul_comm, Nat.add_assoc]

set_option maxHeartbeats 800000 in
theorem heldLogPartS_any (v : Value) (n k : Nat) (w : World) {P : Nat → Prop} (hv : PtsAt P w v (mPs k n)) (hP : ∀ b, P b → b < w.heap.size) (hk : k + 4 * n ≤ 1099511627776) :
    Calls Tryd.prog 26 #[v, .int .i64 k] w fun e w' => e = .returned (.int .i64 (k + 4 * n : Nat)) ∧ Below w.heap.size w w' := by
  obtain ⟨a, cap, rfl, hlen, hc⟩ := hv.open
  have hml : (mPs k n).length = n := by simp [mPs]
  have hc' : ∀ i, i < n → ∃ b o, a = some ⟨b, o, none⟩ ∧ P b ∧ P4At w b (o + i * 4) ⟨((k + 4 * i : Nat) : Int), ((k + 4 * i + 1 : Nat) : Int), ((k + 4 * i + 2 : Nat) : Int), ((k + 4 * i + 3 : Nat) : Int)⟩ := fun i hi => by
    obtain ⟨b, o, e, hp, h0⟩ := hc i (by rw [hml]; exact hi)
    have hg : (mPs k n)[i]'(by rw [hml]; exact hi) = ⟨((k + 4 * i : Nat) : Int), ((k + 4 * i + 1 : Nat) : Int), ((k + 4 * i + 2 : Nat) : Int), ((k + 4 * i + 3 : Nat) : Int)⟩ := by simp [mPs]
    rw [hg] at h0
    exact ⟨b, o, e, hp, h0⟩
  rw [hml] at hlen ⊢
  have HC := hide hc'; have HP := hide hP
  clear hc hc' hP hv hml
  go_enter Tryd.func26, Tryd.ntmps26
  go_wp2_with fail
  go_loopw [1, 5] (fun kk i wr => ∃ (j m : Nat), j ≤ n ∧ m = k + 4 * j ∧ kk = .int .i64 (m : Nat) ∧ i = .int .i64 j ∧ Hid (Below w.heap.size w wr)) (fun _ i _ => n - (intOf i).toNat)
  case atStart => exact ⟨0, k, Nat.zero_le _, by omega, rfl, rfl, Below.refl _ _⟩
  case round =>
    obtain ⟨j, m, hj, hm, rfl, rfl, HB⟩ := hrel
    by_cases hlt : j < n
    · obtain ⟨b, o, rfl, hpb, hcell⟩ := unhide HC j hlt
      obtain ⟨h0, h1, h2, h3⟩ := hcell.carry (HB.out.block b (unhide HP b hpb))
      have e0 : wr.cell? ⟨b, o + j * 4, none⟩ = some (.int .i64 (m : Int)) := by rw [h0, hm]
      have e1 : wr.cell? ⟨b, o + j * 4 + 1, none⟩ = some (.int .i64 ((m : Int) + 1)) := by rw [h1, hm]; rfl
      have e2 : wr.cell? ⟨b, o + j * 4 + 2, none⟩ = some (.int .i64 ((m : Int) + 2)) := by rw [h2, hm]; rfl
      have e3 : wr.cell? ⟨b, o + j * 4 + 3, none⟩ = some (.int .i64 ((m : Int) + 3)) := by rw [h3, hm]; rfl
      have hmb : m + 4 ≤ 1099511627776 := by omega
      have hz2 : (m : Int) + 1 + 1 = (m : Int) + 2 := by omega
      have hz3 : (m : Int) + 2 + 1 = (m : Int) + 3 := by omega
      have HMM := hide hm
      clear h0 h1 h2 h3 hpb hm hcell
      go_wp2_with fail
      go_roundw
      case rel => exact ⟨j + 1, m + 4, by omega, by have := unhide HMM; omega, by go_num, by go_num, HB⟩
      case measure => simp [intOf]; omega
    · go_wp2_with fail
      go_ret
      obtain rfl : j = n := by omega
      exact ⟨by rw [hm]; rfl, HB.out⟩

set_option maxHeartbeats 1600000 in
theorem markLogPartS_own (v : Value) (fs : List Pt) (F : List Nat) (k : Nat) (w : World) (hv : PtsOwn w v fs F) (hk : k + 4 * fs.length ≤ 1099511627776) :
    Calls Tryd.prog 25 #[v, .int .i64 k] w fun e w' => e = .returned (.int .i64 (k + 4 * fs.length : Nat)) ∧ PtsOwn w' v (mPs k fs.length) F ∧ Exc F w w' := by
  obtain ⟨a, cap, rfl, hlen, hc⟩ := hv
  rw [List.length_map] at hlen ⊢
  rcases hc with ⟨hfs, rfl⟩ | ⟨b, rfl, rfl, hfr, hc⟩
  · have hfs' : fs = [] := by simpa using hfs
    subst hfs'
    simp only [List.length_nil] at *
    go_enter Tryd.func25, Tryd.ntmps25
    go_wp2_with fail
    go_loopw [1, 5] (fun kk i wr => kk = .int .i64 k ∧ i = .int .i64 0 ∧ wr = w) (fun _ _ _ => 0)
    case atStart => exact ⟨rfl, rfl, rfl⟩
    case round =>
      obtain ⟨rfl, rfl, rfl⟩ := hrel
      go_wp2_with fail
      go_ret
      exact ⟨by simp, ⟨a, cap, by simp [mPs], by simp [mPs], Or.inl ⟨by simp [mPs], rfl⟩⟩, Exc.refl _ _⟩
  · have hM := FlatOwn.cells (n := 4) (rs := fs.map Pt.cs) hc hfr (by omega)
    rw [List.length_map] at hM
    generalize (fun q => ((fs.map Pt.cs).getD (q / 4) []).getD (q % 4) undef) = g at hM
    have hM0 : CellsAre w b (fs.length * 4) (partF (mkQ k) g 0) := by
      have : partF (mkQ k) g 0 = g := by funext q; simp [partF]
      rw [this]; exact hM
    have HM := hide hM0
    clear hM hM0 hfr hc
    generalize fs.length = n at *
    go_enter Tryd.func25, Tryd.ntmps25
    go_wp2_with fail
    go_loopw [1, 5] (fun kk i wr => ∃ (j m : Nat), j ≤ n ∧ m = k + 4 * j ∧ kk = .int .i64 (m : Nat) ∧ i = .int .i64 j ∧ Hid (CellsAre wr b (n * 4) (partF (mkQ k) g (j * 4))) ∧ Hid (Exc [b] w wr)) (fun _ i _ => n - (intOf i).toNat)
    case atStart => exact ⟨0, k, Nat.zero_le _, by omega, rfl, rfl, by rw [Nat.zero_mul]; exact HM, Exc.refl _ _⟩
    case round =>
      obtain ⟨j, m, hj, hm, rfl, rfl, HC, HX⟩ := hrel
      by_cases hlt : j < n
      · have hmb2 : m + 4 ≤ 1099511627776 := by omega
        have HMM := hide hm
        have hz2 : (m : Int) + 1 + 1 = (m : Int) + 2 := by omega
        have hz3 : (m : Int) + 2 + 1 = (m : Int) + 3 := by omega
        have f0 : Value.int .i64 (m : Int) = mkQ k (j * 4) := by unfold mkQ; rw [hm]; congr 2; omega
        have f1 : Value.int .i64 ((m : Int) + 1) = mkQ k (j * 4 + 1) := by unfold mkQ; rw [hm]; congr 1; omega
        have f2 : Value.int .i64 ((m : Int) + 2) = mkQ k (j * 4 + 1 + 1) := by unfold mkQ; rw [hm]; congr 1; omega
        have f3 : Value.int .i64 ((m : Int) + 3) = mkQ k (j * 4 + 1 + 1 + 1) := by unfold mkQ; rw [hm]; congr 1; omega
        have y0 := HC.out.2 (j * 4) (by omega); have z0 := HC.out.1 (j * 4)
        have hs1 := HC.out.step (by omega) _ f0
        have y1 := hs1.2 (j * 4 + 1) (by omega); have z1 := hs1.1 (j * 4 + 1)
        have hs2 := hs1.step (by omega) _ f1
        have y2 := hs2.2 (j * 4 + 2) (by omega); have z2 := hs2.1 (j * 4 + 2)
        have hs3 := hs2.step (by omega) _ f2
        have y3 := hs3.2 (j * 4 + 3) (by omega); have z3 := hs3.1 (j * 4 + 3)
        have HS2 := hide (hs3.step (by omega) _ f3)
        have HX2 := hide ((((HX.out.trans (Exc.set wr b (j * 4) (.int .i64 (m : Int)) (by simp))).trans (Exc.set _ b (j * 4 + 1) (.int .i64 ((m : Int) + 1)) (by simp))).trans (Exc.set _ b (j * 4 + 2) (.int .i64 ((m : Int) + 2)) (by simp))).trans (Exc.set _ b (j * 4 + 3) (.int .i64 ((m : Int) + 3)) (by simp)))
        clear hm f0 f1 f2 f3 hs1 hs2 hs3
        go_wp2_with fail
        go_roundw
        case rel => exact ⟨j + 1, m + 4, by omega, by have := unhide HMM; omega, by go_num, by go_num, by rw [Nat.add_mul]; exact HS2, unhide HX2⟩
        case measure => simp [intOf]; omega
      · go_wp2_with fail
        go_ret
        obtain rfl : j = n := by omega
        exact ⟨by rw [hm]; rfl, ps_of_cells hlen HC.out, HX.out⟩


set_option maxHeartbeats 800000 in
theorem markLogPlan_own (v : Value) (ps : List Pt) (x y : Int) (F : List Nat) (k : Nat) (w : World) (hv : PtsOwn w v ps F) (hF : ∀ b, b ∈ F → b < w.heap.size) (hk : k + 4 * ps.length ≤ 1099511627776) :
    Calls Tryd.prog 13 #[.agg #[v, .int .i64 x, .int .i64 y], .int .i64 k] w fun e w' => e = .returned (.int .i64 (k + 4 * ps.length : Nat)) ∧ PtsOwn w' v (mPs k ps.length) F ∧ Exc F w w' := by
  have hbx : ∀ o, Below w.heap.size w (w.alloc o) := fun o => (Below.refl _ _).alloc (Nat.le_refl _) o
  have HM := hide (fun o => markLogPartS_own v ps F k (w.alloc o) (hv.carry (fun b hb => (hbx o).block b (hF b hb))) hk)
  obtain ⟨a, cap, rfl, -, -⟩ := hv
  rw [List.length_map] at HM ⊢
  have HBX := hide hbx
  clear hbx hF
  go_enter Tryd.func13, Tryd.ntmps13
  go_wp2_with fail
  refine (unhide HM _).mono ?_
  rintro e w1 ⟨rfl, h1, h2⟩
  have HX := hide ((Exc.of_below (F := F) (unhide HBX _)).trans h2)
  clear h2 HM
  go_wp2_with fail
  go_ret
  exact ⟨rfl, h1, unhide HX⟩
set_option maxHeartbeats 800000 in
theorem heldLogPlan_any (v : Value) (n k : Nat) (x y : Int) (w : World) {P : Nat → Prop} (hv : PtsAt P w v (mPs k n)) (hP : ∀ b, P b → b < w.heap.size) (hk : k + 4 * n ≤ 1099511627776) :
    Calls Tryd.prog 14 #[.agg #[v, .int .i64 x, .int .i64 y], .int .i64 k] w fun e w' => e = .returned (.int .i64 (k + 4 * n : Nat)) ∧ Below w.heap.size w w' := by
  have hbx : ∀ o, Below w.heap.size w (w.alloc o) := fun o => (Below.refl _ _).alloc (Nat.le_refl _) o
  have HM := hide (fun o => heldLogPartS_any v n k (w.alloc o) (hv.carry (fun b hb => (hbx o).block b (hP b hb)) (fun _ h => h)) (fun b hb => Nat.lt_of_lt_of_le (hP b hb) (hbx o).size) hk)
  obtain ⟨a, cap, rfl, -, -⟩ := hv.open
  have HBX := hide hbx
  clear hbx hP hv
  generalize hm : k + 4 * n = m at *
  clear hm
  go_enter Tryd.func14, Tryd.ntmps14
  go_wp2_with fail
  refine (unhide HM _).mono ?_
  rintro e w1 ⟨rfl, hb1⟩
  have HX := hide ((unhide HBX _).trans (hb1.mono (unhide HBX _).size))
  clear hb1 HM
  go_wp2_with fail
  go_ret
  exact ⟨rfl, unhide HX⟩
end Go.Proofs.YtcnkkegpckibbaaDoor

/- The walks of toKind, toKindS: they make a new copy of a schema, and turn nothing that was there. No conditions but the schema's weight, at most 2^20. -/

namespace Go.Proofs.YtcnkkegpckibbaaDoor
open Go Go.RowKit

/-- The three zero cells of a schema. -/
def z3 : Array Value := #[.int .i64 0, .slice none 0 0, .slice none 0 0]

end Go.Proofs.YtcnkkegpckibbaaDoor

/- The walk of toStringS once more: the copy lies in new blocks of which nothing is frozen. No conditions but the number of strings, at most 2^20. -/

namespace Go.Proofs.YtcnkkegpckibbaaDoor
open Go Go.RowKit

end Go.Proofs.YtcnkkegpckibbaaDoor

/- The walks of the law's toDiskFile, toDiskFileS, toDiskMove, toDiskMoveS, toDisk: they make a new copy of a disk, and turn nothing that was there. No conditions but the disk's weight, at most 2^20. -/

namespace Go.Proofs.YtcnkkegpckibbaaDoor
open Go Go.RowKit

end Go.Proofs.YtcnkkegpckibbaaDoor

/- The walks of the law's own szLogPlan, toLogPlan, eqLogPlan. No conditions but toLogPlan's on how many parts. -/

namespace Go.Proofs.YtcnkkegpckibbaaDoor
open Go Go.RowKit

theorem eqLogPart_any (p : Pt) (w : World) :
    Calls Tryd.prog 34 #[.agg #[.int .i64 p.num, .int .i64 p.first, .int .i64 p.next, .int .i64 p.size], .agg #[.int .i64 p.num, .int .i64 p.first, .int .i64 p.next, .int .i64 p.size]] w fun e w' => e = .returned (.bool true) ∧ Below w.heap.size w w' := by
  have hb0 : ∀ o o2, Below w.heap.size w ((w.alloc o).alloc o2) := fun o o2 => ((Below.refl _ _).alloc (Nat.le_refl _) o).alloc (by simp) o2
  go_enter Tryd.func34, Tryd.ntmps34
  go_wp2_with fail
  go_ret
  exact ⟨rfl, hb0 _ _⟩
set_option maxHeartbeats 800000 in
theorem eqLogPartS_any (v v2 : Value) (fs : List Pt) (w : World) {P Q : Nat → Prop} (hP : ∀ b, P b → b < w.heap.size) (hQ : ∀ b, Q b → b < w.heap.size) (hv : PtsAt P w v fs) (hv2 : PtsAt Q w v2 fs) :
    Calls Tryd.prog 24 #[v, v2] w fun e w' => e = .returned (.bool true) ∧ Below w.heap.size w w' := by
  obtain ⟨a, cap, rfl, hlen, hc⟩ := hv.open
  obtain ⟨a2, cap2, rfl, -, hc2⟩ := hv2.open
  have HC := hide hc; have HC2 := hide hc2; have HP := hide hP; have HQ := hide hQ; clear hc hc2 hP hQ hv hv2
  go_enter Tryd.func24, Tryd.ntmps24
  go_wp2_with fail
  go_loopw [5] (fun i wr => ∃ (k : Nat), k ≤ fs.length ∧ i = .int .i64 k ∧ Below w.heap.size w wr) (fun i _ => fs.length - (intOf i).toNat)
  case atStart => exact ⟨0, Nat.zero_le _, rfl, Below.refl _ _⟩
  case round =>
    obtain ⟨k, hk, rfl, hb⟩ := hrel
    by_cases hlt : k < fs.length
    · obtain ⟨b, o, rfl, hpb, hcell⟩ := unhide HC k hlt
      obtain ⟨b2, o2, rfl, hpb2, hcell2⟩ := unhide HC2 k hlt
      obtain ⟨e0, e1, e2, e3⟩ := hcell.carry (hb.block b (unhide HP b hpb))
      obtain ⟨g0, g1, g2, g3⟩ := hcell2.carry (hb.block b2 (unhide HQ b2 hpb2))
      have HCALL := hide (eqLogPart_any fs[k] wr.drew)
      clear hcell hpb hcell2 hpb2
      generalize fs[k] = f at *
      go_wp2_with fail
      go_region_with (go_at_call 34; refine (unhide HCALL).mono ?_; rintro e w' ⟨rfl, hb'⟩)
      all_goals
        have hb2 := hb.drew.trans (hb'.mono hb.drew.size)
        go_wp2_with fail
        go_roundw
        case rel => exact ⟨k + 1, by omega, by go_num, hb2⟩
        case measure => simp [intOf]; omega
    · go_wp2_with fail
      go_ret
      exact ⟨rfl, hb⟩
set_option maxHeartbeats 800000 in
theorem eqLogPlan_any (l : Pl) (a a2 : Option Addr) (cap cap2 : Nat) (w : World) {P Q : Nat → Prop} (hP : ∀ b, P b → b < w.heap.size) (hQ : ∀ b, Q b → b < w.heap.size) (hv : PtsAt P w (.slice a l.parts.length cap) l.parts) (hv2 : PtsAt Q w (.slice a2 l.parts.length cap2) l.parts) :
    Calls Tryd.prog 12 #[.agg #[.slice a l.parts.length cap, .int .i64 l.op, .int .i64 l.fi], .agg #[.slice a2 l.parts.length cap2, .int .i64 l.op, .int .i64 l.fi]] w fun e w' => e = .returned (.bool true) ∧ Below w.heap.size w w' := by
  have hb0 : ∀ o o2, Below w.heap.size w ((w.alloc o).alloc o2) := fun o o2 => ((Below.refl _ _).alloc (Nat.le_refl _) o).alloc (by simp) o2
  have HE := hide (fun o o2 => eqLogPartS_any _ _ l.parts ((w.alloc o).alloc o2) (fun b hb => Nat.lt_of_lt_of_le (hP b hb) (hb0 o o2).size) (fun b hb => Nat.lt_of_lt_of_le (hQ b hb) (hb0 o o2).size) (hv.carry (fun b hb => (hb0 o o2).block b (hP b hb)) (fun _ h => h)) (hv2.carry (fun b hb => (hb0 o o2).block b (hQ b hb)) (fun _ h => h)))
  have hr1 := row3_alloc w (.slice a l.parts.length cap) (.int .i64 l.op) (.int .i64 l.fi) 25
  have hr2 := fun o => row3_alloc (w.alloc o) (.slice a2 l.parts.length cap2) (.int .i64 l.op) (.int .i64 l.fi) 25
  simp only [World.size_alloc] at hr2
  have HR1 := hide hr1; have HR2 := hide hr2; have HB0 := hide hb0
  clear hv hv2 hP hQ hr1 hr2 hb0
  go_enter Tryd.func12, Tryd.ntmps12
  go_wp2_with fail
  refine (unhide HE _ _).mono ?_
  rintro e w1 ⟨rfl, hb1⟩
  have q1 := ((unhide HR1).alloc (.cells #[.slice a2 l.parts.length cap2, .int .i64 l.op, .int .i64 l.fi] 25)).of_block (hb1.block w.heap.size (by rw [World.size_alloc, World.size_alloc]; omega))
  have q2 := (unhide HR2 _).of_block (hb1.block (w.heap.size + 1) (by rw [World.size_alloc, World.size_alloc]; omega))
  have k1 := q1.cell (i := 1) (by omega); have k2 := q1.cell (i := 2) (by omega)
  have j1 := q2.cell (i := 1) (by omega); have j2 := q2.cell (i := 2) (by omega)
  simp only [row3] at k1 k2 j1 j2
  have HB := hide ((unhide HB0 _ _).trans (hb1.mono (unhide HB0 _ _).size))
  clear q1 q2 hb1 HE
  generalize l.op = x at *
  generalize l.fi = y at *
  go_wp2_with fail
  go_ret
  exact ⟨rfl, unhide HB⟩
end Go.Proofs.YtcnkkegpckibbaaDoor
