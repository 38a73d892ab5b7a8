/- The walks of markText and markStringS: the text of a mark; strings that own their memory are marked in place, and nothing else turns. For marks up to 2^40. -/
import Derived.Test.YtgdiankfnemjjaaGreatRows
import Derived.Test.YtgdiankfnemjjaaGreatPart00
import Derived.Test.YtgdiankfnemjjaaGreatPart14
namespace Go.Proofs.YtgdiankfnemjjaaGreat
open Go Go.RowKit

theorem mtl_step {j : Nat} (h : j ≠ 0) (o : ByteArray) : mtl j o = mtl (j / 10) (⟨#[dg ((j : Int) % 10)]⟩ ++ o) := by
  conv => lhs; rw [mtl]
  rw [dif_neg h]
  have : dg ((j : Int) % 10) = UInt8.ofNat (48 + j % 10) := by unfold dg; rw [show ((j : Int) % 10).toNat = j % 10 from by omega]
  rw [this]
theorem mtl_zero (o : ByteArray) : mtl 0 o = o := by rw [mtl]; simp

theorem quo10' {n : Int} (h0 : 0 ≤ n) (h1 : n ≤ 1099511627776) : IntKind.i64.wrap (n.tdiv 10) = n / 10 := by
  rw [IntKind.wrap_i64, Int.tdiv_eq_ediv_of_nonneg h0]; omega

set_option maxHeartbeats 400000 in
theorem markText_any (k : Nat) (w : World) (hk0 : 0 < k) (hk : k ≤ 1099511627776) :
    Calls Tryz.prog 44 #[.int .i64 k] w fun e w' => e = .returned (.string (mtx k)) ∧ Below w.heap.size w w' := by
  go_enter Tryz.func44, Tryz.ntmps44
  go_wp2_with fail
  go_loopw [0, 3] (fun kk os wr => ∃ (j : Nat) (o : ByteArray), kk = .int .i64 j ∧ os = .string o ∧ Hid (mtl j o = mtl k ByteArray.empty) ∧ o.size + j ≤ k ∧ Below w.heap.size w wr) (fun kk _ _ => (intOf kk).toNat)
  case atStart => exact ⟨k, ByteArray.empty, rfl, rfl, hide rfl, by simp, Below.refl _ _⟩
  case round =>
    obtain ⟨j, o, rfl, rfl, HM, hsz, hb⟩ := hrel
    by_cases hj : j = 0
    · subst hj
      have hm := HM.out
      rw [mtl_zero] at hm
      have HM2 := hide hm
      have e1 : (ByteArray.mk #[109]).size = 1 := rfl
      have e2 : o.size ≤ 1099511627776 := by omega
      clear hm HM hsz
      go_wp2_with fail
      go_ret
      have hm := HM2.out
      subst hm
      exact ⟨rfl, hb⟩
    · have hconv := fun W b cap => conv_one W b cap ((j : Int) % 10) (by omega) (by omega)
      have hq1 := quo10' (n := j) (by omega) (by omega)
      have hq2 := rem10 (n := j) (by omega)
      have hq3 := rem10b j
      have hm := HM.out
      rw [mtl_step hj] at hm
      have HM2 := hide hm
      have e1 : (ByteArray.mk #[dg ((j : Int) % 10)]).size = 1 := rfl
      clear hm HM
      go_wp2_with fail
      go_roundw
      case rel =>
        refine ⟨j / 10, _, by simp, rfl, HM2, ?_, hb.alloc hb.size _⟩
        rw [ByteArray.size_append, e1]; omega
      case measure => simp [intOf]; omega

/-- What the loop of markStringS has marked after k rounds. -/
def MrkS (w : World) (b : Nat) (ss : List ByteArray) (k0 k : Nat) : Prop :=
  FreeB w b ∧ ∀ i, (h : i < ss.length) → w.cell? ⟨b, i, none⟩ = some (.string (if i < k then mtx (k0 + i) else ss[i])) ∧ ss[i].size ≤ 9223372036854775807

theorem MrkS.step {w : World} {b : Nat} {ss : List ByteArray} {k0 k : Nat} (h : MrkS w b ss k0 k) (hk : k < ss.length) : MrkS (w.setCell ⟨b, k, none⟩ (.string (mtx (k0 + k)))) b ss k0 (k + 1) := by
  refine ⟨h.1.set _ _, fun i hi => ⟨?_, (h.2 i hi).2⟩⟩
  by_cases e : i = k
  · subst e
    have := (h.2 i hi).1
    rw [if_pos (by omega)]
    simp [go_sem, this]
  · have := (h.2 i hi).1
    rw [show (if i < k + 1 then mtx (k0 + i) else ss[i]) = (if i < k then mtx (k0 + i) else ss[i]) from by
      by_cases e2 : i < k
      · rw [if_pos e2, if_pos (by omega)]
      · rw [if_neg e2, if_neg (by omega)]]
    rw [← this]
    simp [go_sem]
theorem MrkS.of_block {w w' : World} {b : Nat} {ss : List ByteArray} {k0 k : Nat} (h : MrkS w b ss k0 k) (e : w'.heap[b]? = w.heap[b]?) : MrkS w' b ss k0 k :=
  ⟨h.1.of_block e, fun i hi => ⟨by rw [World.cell?_of_block (w := w) (a := ⟨b, i, none⟩) e]; exact (h.2 i hi).1, (h.2 i hi).2⟩⟩

set_option maxHeartbeats 400000 in
theorem markStringS_any (v : Value) (ss : List ByteArray) (F : List Nat) (k : Nat) (w : World) (hv : StrsOwn w v ss F) (hk0 : 0 < k) (hk : k + ss.length ≤ 1099511627776) :
    Calls Tryz.prog 42 #[v, .int .i64 k] w fun e w' => e = .returned (.int .i64 (k + ss.length : Nat)) ∧ StrsOwn w' v (mS k ss) F ∧ Exc F w w' := by
  obtain ⟨a, cap, rfl, hlen, hc⟩ := hv
  rcases hc with ⟨rfl, rfl⟩ | ⟨b, rfl, rfl, hfr, hc⟩
  · simp only [List.length_nil] at *
    go_enter Tryz.func42, Tryz.ntmps42
    go_wp2_with fail
    go_loopw [1, 5] (fun kk i wr => kk = .int .i64 k ∧ i = .int .i64 0 ∧ wr = w) (fun _ _ _ => 0)
    case atStart => exact ⟨rfl, rfl, rfl⟩
    case round =>
      obtain ⟨rfl, rfl, rfl⟩ := hrel
      go_wp2_with fail
      go_ret
      exact ⟨by simp, ⟨a, cap, by simp [mS], by simp [mS], Or.inl ⟨rfl, rfl⟩⟩, Exc.refl _ _⟩
  · have hM : MrkS w b ss k 0 := ⟨hfr, fun i hi => ⟨by rw [if_neg (by omega)]; exact (hc i hi).1, (hc i hi).2⟩⟩
    have HM := hide hM
    clear hM hfr hc
    go_enter Tryz.func42, Tryz.ntmps42
    go_wp2_with fail
    go_loopw [1, 5] (fun kk i wr => ∃ (j : Nat), j ≤ ss.length ∧ kk = .int .i64 (k + j : Nat) ∧ i = .int .i64 j ∧ Hid (MrkS wr b ss k j) ∧ Exc [b] w wr) (fun _ i _ => ss.length - (intOf i).toNat)
    case atStart => exact ⟨0, Nat.zero_le _, rfl, rfl, HM, Exc.refl _ _⟩
    case round =>
      obtain ⟨j, hj, rfl, rfl, HMj, hex⟩ := hrel
      by_cases hlt : j < ss.length
      · have hblt : b < wr.heap.size := World.block_lt_of_cell? wr _ (HMj.out.2 j hlt).1
        go_wp2_with fail
        refine (markText_any (k + j) wr (by omega) (by omega)).mono ?_
        rintro e w' ⟨rfl, hb'⟩
        have hMj := HMj.out.of_block (hb'.block b hblt)
        have HMj' := hide hMj
        have z0 := hMj.1 j
        have y0 := (hMj.2 j hlt).1
        rw [if_neg (by omega)] at y0
        clear hMj
        go_wp2_with fail
        go_roundw
        case rel =>
          refine ⟨j + 1, by omega, by go_num, by go_num, hide (HMj'.out.step hlt), ?_⟩
          exact (hex.trans (Exc.of_below hb')).trans (Exc.set _ _ _ _ (by simp))
        case measure => simp [intOf]; omega
      · go_wp2_with fail
        go_ret
        obtain rfl : j = ss.length := by omega
        refine ⟨rfl, ⟨some ⟨b, 0, none⟩, cap, by rw [mS_len], by rw [mS_len]; exact hlen, Or.inr ⟨b, rfl, rfl, HMj.out.1, fun i hi => ?_⟩⟩, hex⟩
        have hi' : i < ss.length := by rw [mS_len] at hi; exact hi
        have := (HMj.out.2 i hi').1
        rw [if_pos hi'] at this
        rw [mS_get]
        exact ⟨this, by have := mtx_size (k + i); omega⟩
end Go.Proofs.YtgdiankfnemjjaaGreat

/- The walk of markStringS over a shape: it ends, and turns cells of the shape's own blocks alone, each into one of its kind. The marks count to at most 2^40. -/

namespace Go.Proofs.YtgdiankfnemjjaaGreat
open Go Go.RowKit

set_option maxHeartbeats 400000 in
theorem markStringS_shp (D : Nat → Prop) (v : Value) (n : Nat) (k : Nat) (w : World) (hv : SShp D w v n) (hk0 : 0 < k) (hk : k + n ≤ 1099511627776) :
    Calls Tryz.prog 42 #[v, .int .i64 k] w fun e w' => e = .returned (.int .i64 (k + n : Nat)) ∧ Like D w w' := by
  have HV := hide hv
  obtain ⟨a, cap, rfl, hlen, -⟩ := hv
  go_enter Tryz.func42, Tryz.ntmps42
  go_wp2_with fail
  go_loopw [1, 5] (fun kk i wr => ∃ (j : Nat), j ≤ n ∧ kk = .int .i64 (k + j : Nat) ∧ i = .int .i64 j ∧ Hid (Like D w wr)) (fun _ i _ => n - (intOf i).toNat)
  case atStart => exact ⟨0, Nat.zero_le _, rfl, rfl, Like.refl _ _⟩
  case round =>
    obtain ⟨j, hj, rfl, rfl, HL⟩ := hrel
    by_cases hlt : j < n
    · have hs := (unhide HV).like HL.out
      obtain ⟨a', cap', e, -, hc⟩ := hs
      cases e
      obtain ⟨b, o, s, rfl, hd, hf, hcell⟩ := hc j hlt
      have hblt : b < wr.heap.size := World.block_lt_of_cell? wr _ hcell
      have HC := hide hcell; have HF := hide hf; have HD := hide hd
      clear hcell hf hd hc
      go_wp2_with fail
      refine (markText_any (k + j) wr (by omega) (by omega)).mono ?_
      rintro e w' ⟨rfl, hb'⟩
      have y0 : w'.cell? ⟨b, o + j, none⟩ = some (.string s) := by rw [hb'.cell hblt]; exact unhide HC
      have z0 := ((unhide HF).of_block (hb'.block b hblt)) (o + j)
      have HB := hide hb'; clear hb'
      go_wp2_with fail
      go_roundw
      case rel =>
        refine ⟨j + 1, by omega, by go_num, by go_num, ?_⟩
        exact (HL.out.trans (Like.of_below (unhide HB))).trans (Like.set (unhide HD) y0 (Or.inr (Or.inl ⟨_, _, rfl, rfl⟩)))
      case measure => simp [intOf]; omega
    · go_wp2_with fail
      go_ret
      obtain rfl : j = n := by omega
      exact ⟨rfl, HL.out⟩

end Go.Proofs.YtgdiankfnemjjaaGreat

/- The walks of the law's markDiskFileS, markDiskMoveS, markDisk over a shape: they end, and turn cells of the shape's own blocks alone, each into one of its kind. The marks count to at most 2^40. -/

namespace Go.Proofs.YtgdiankfnemjjaaGreat
open Go Go.RowKit

/-- A slice of so many files, in blocks of D of which nothing is frozen. -/
def FShp (D : Nat → Prop) (w : World) (v : Value) (n : Nat) : Prop :=
  ∃ a cap, v = .slice a n cap ∧ n ≤ 9223372036854775807 ∧ ∀ i, i < n → ∃ b o s1 s2 k, a = some ⟨b, o, none⟩ ∧ D b ∧ FreeB w b ∧ w.cell? ⟨b, o + i * 3, none⟩ = some (.string s1) ∧ w.cell? ⟨b, o + i * 3 + 1, none⟩ = some (.string s2) ∧ w.cell? ⟨b, o + i * 3 + 2, none⟩ = some (.int .i64 k)
theorem FShp.like {D : Nat → Prop} {w w' : World} {v : Value} {n : Nat} (h : FShp D w v n) (hl : Like D w w') : FShp D w' v n := by
  obtain ⟨a, cap, h1, h2, h3⟩ := h
  refine ⟨a, cap, h1, h2, fun i hi => ?_⟩
  obtain ⟨b, o, s1, s2, k, e, hd, hf, c0, c1, c2⟩ := h3 i hi
  obtain ⟨v0, hv0, l0⟩ := hl.cell _ _ _ c0
  obtain ⟨v1, hv1, l1⟩ := hl.cell _ _ _ c1
  obtain ⟨v2, hv2, l2⟩ := hl.cell _ _ _ c2
  obtain ⟨s1', rfl⟩ := l0.str
  obtain ⟨s2', rfl⟩ := l1.str
  obtain ⟨k', rfl⟩ := l2.int
  exact ⟨b, o, s1', s2', k', e, hd, hl.free b (World.block_lt_of_cell? w _ c0) hf, hv0, hv1, hv2⟩
/-- A slice of so many moves, likewise. -/
def MShp (D : Nat → Prop) (w : World) (v : Value) (n : Nat) : Prop :=
  ∃ a cap, v = .slice a n cap ∧ n ≤ 9223372036854775807 ∧ ∀ i, i < n → ∃ b o x s, a = some ⟨b, o, none⟩ ∧ D b ∧ FreeB w b ∧ w.cell? ⟨b, o + i * 2, none⟩ = some (.bool x) ∧ w.cell? ⟨b, o + i * 2 + 1, none⟩ = some (.string s)
theorem MShp.like {D : Nat → Prop} {w w' : World} {v : Value} {n : Nat} (h : MShp D w v n) (hl : Like D w w') : MShp D w' v n := by
  obtain ⟨a, cap, h1, h2, h3⟩ := h
  refine ⟨a, cap, h1, h2, fun i hi => ?_⟩
  obtain ⟨b, o, x, s, e, hd, hf, c0, c1⟩ := h3 i hi
  obtain ⟨v0, hv0, l0⟩ := hl.cell _ _ _ c0
  obtain ⟨v1, hv1, l1⟩ := hl.cell _ _ _ c1
  obtain ⟨x', rfl⟩ := l0.bool
  obtain ⟨s', rfl⟩ := l1.str
  exact ⟨b, o, x', s', e, hd, hl.free b (World.block_lt_of_cell? w _ c0) hf, hv0, hv1⟩
/-- Three cells are the shape of a disk. -/
structure DShp (D : Nat → Prop) (w : World) (d : Dk) (c : C3) : Prop where
  fs : FShp D w c.c0 d.files.length
  ns : SShp D w c.c1 d.names.length
  ms : MShp D w c.c2 d.moves.length
theorem DkAt.shp {D : Nat → Prop} {w : World} {d : Dk} {c : C3} (h : DkAt D w d c) (hf : ∀ b, D b → FreeB w b) : DShp D w d c := by
  refine ⟨?_, ?_, ?_⟩
  · obtain ⟨a, cap, h1, h2, h3⟩ := h.fs.open
    refine ⟨a, cap, h1, h2, fun i hi => ?_⟩
    obtain ⟨b, o, e, hb, ⟨c0, c1, c2⟩, -⟩ := h3 i hi
    exact ⟨b, o, _, _, _, e, hb, hf b hb, c0, c1, c2⟩
  · obtain ⟨a, cap, h1, h2, h3⟩ := h.ns
    refine ⟨a, cap, h1, h2, fun i hi => ?_⟩
    obtain ⟨b, o, e, hb, hc, -⟩ := h3 i hi
    exact ⟨b, o, _, e, hb, hf b hb, hc⟩
  · obtain ⟨a, cap, h1, h2, h3⟩ := h.ms.open
    refine ⟨a, cap, h1, h2, fun i hi => ?_⟩
    obtain ⟨b, o, e, hb, c0, c1, -⟩ := h3 i hi
    exact ⟨b, o, _, _, e, hb, hf b hb, c0, c1⟩
set_option maxHeartbeats 1600000 in
theorem markDiskFileS_shp (D : Nat → Prop) (v : Value) (n : Nat) (k : Nat) (w : World) (hv : FShp D w v n) (hk0 : 0 < k) (hk : k + 3 * n ≤ 1099511627776) :
    Calls Tryz.prog 41 #[v, .int .i64 k] w fun e w' => e = .returned (.int .i64 (k + 3 * n : Nat)) ∧ Like D w w' := by
  have HV := hide hv
  obtain ⟨a, cap, rfl, hlen, -⟩ := hv
  go_enter Tryz.func41, Tryz.ntmps41
  go_wp2_with fail
  go_loopw [1, 5] (fun kk i wr => ∃ (j m : Nat), j ≤ n ∧ m = k + 3 * j ∧ kk = .int .i64 (m : Nat) ∧ i = .int .i64 j ∧ Hid (Like D w wr)) (fun _ i _ => n - (intOf i).toNat)
  case atStart => exact ⟨0, k, Nat.zero_le _, by omega, rfl, rfl, Like.refl _ _⟩
  case round =>
    obtain ⟨j, m, hj, hm, rfl, rfl, HL⟩ := hrel
    by_cases hlt : j < n
    · have hs := (unhide HV).like HL.out
      obtain ⟨a', cap', e, -, hc⟩ := hs
      cases e
      obtain ⟨b, o, s1, s2, q, rfl, hd, hf, c0, c1, c2⟩ := hc j hlt
      have hblt : b < wr.heap.size := World.block_lt_of_cell? wr _ c0
      have HC0 := hide c0; have HC1 := hide c1; have HC2 := hide c2; have HF := hide hf; have HD := hide hd; have HM := hide hm
      have hmb : m ≤ 1099511627000 + 776 := by omega
      have hmb2 : m + 3 ≤ 1099511627776 := by omega
      have hm0 : 0 < m := by omega
      clear c0 c1 c2 hf hd hc hm
      go_wp2_with fail
      refine (markText_any m wr (by omega) (by omega)).mono ?_
      rintro e w1 ⟨rfl, hb1⟩
      have y0 : w1.cell? ⟨b, o + j * 3, none⟩ = some (.string s1) := by rw [hb1.cell (p := ⟨b, o + j * 3, none⟩) hblt]; exact unhide HC0
      have y1 : w1.cell? ⟨b, o + j * 3 + 1, none⟩ = some (.string s2) := by rw [hb1.cell (p := ⟨b, o + j * 3 + 1, none⟩) hblt]; exact unhide HC1
      have y2 : w1.cell? ⟨b, o + j * 3 + 2, none⟩ = some (.int .i64 q) := by rw [hb1.cell (p := ⟨b, o + j * 3 + 2, none⟩) hblt]; exact unhide HC2
      have hf1 := (unhide HF).of_block (hb1.block b hblt)
      have z0 := hf1 (o + j * 3)
      have hl1 : Like D wr (w1.setCell ⟨b, o + j * 3, none⟩ (.string (mtx m))) := (Like.of_below hb1).trans (Like.set (unhide HD) y0 (Or.inr (Or.inl ⟨_, _, rfl, rfl⟩)))
      have hf1' : FreeB (w1.setCell ⟨b, o + j * 3, none⟩ (.string (mtx m))) b := hf1.set _ _
      have hblt1 : b < (w1.setCell ⟨b, o + j * 3, none⟩ (.string (mtx m))).heap.size := Nat.lt_of_lt_of_le hblt hl1.size
      have x1 : (w1.setCell ⟨b, o + j * 3, none⟩ (.string (mtx m))).cell? ⟨b, o + j * 3 + 1, none⟩ = some (.string s2) := by rw [World.cell?_setCell_other _ _ _ _ (by simp)]; exact y1
      have x2 : (w1.setCell ⟨b, o + j * 3, none⟩ (.string (mtx m))).cell? ⟨b, o + j * 3 + 2, none⟩ = some (.int .i64 q) := by rw [World.cell?_setCell_other _ _ _ _ (by simp)]; exact y2
      have HL1 := hide hl1; have HF1 := hide hf1'; have X1 := hide x1; have X2 := hide x2; have HBL1 := hide hblt1
      clear hl1 hf1 hf1' x1 x2 y1 y2 hb1 hblt1
      have hmt : Calls Tryz.prog 44 #[.int .i64 ((m : Int) + 1)] (w1.setCell ⟨b, o + j * 3, none⟩ (.string (mtx m))) fun e w' => e = .returned (.string (mtx (m + 1))) ∧ Below (w1.setCell ⟨b, o + j * 3, none⟩ (.string (mtx m))).heap.size (w1.setCell ⟨b, o + j * 3, none⟩ (.string (mtx m))) w' := by
        have := markText_any (m + 1) (w1.setCell ⟨b, o + j * 3, none⟩ (.string (mtx m))) (by omega) (by omega)
        rwa [show ((m + 1 : Nat) : Int) = (m : Int) + 1 by omega] at this
      have HMT := hide hmt
      clear hmt
      go_wp2_with fail
      refine (unhide HMT).mono ?_
      rintro e w2 ⟨rfl, hb2⟩
      have u1 : w2.cell? ⟨b, o + j * 3 + 1, none⟩ = some (.string s2) := by rw [hb2.cell (p := ⟨b, o + j * 3 + 1, none⟩) (unhide HBL1)]; exact unhide X1
      have u2 : w2.cell? ⟨b, o + j * 3 + 2, none⟩ = some (.int .i64 q) := by rw [hb2.cell (p := ⟨b, o + j * 3 + 2, none⟩) (unhide HBL1)]; exact unhide X2
      have hf2 := (unhide HF1).of_block (hb2.block b (unhide HBL1))
      have z1 := hf2 (o + j * 3 + 1); have z2 := hf2 (o + j * 3 + 2)
      have hl2 : Like D wr (w2.setCell ⟨b, o + j * 3 + 1, none⟩ (.string (mtx (m + 1)))) := (unhide HL1).trans ((Like.of_below hb2).trans (Like.set (unhide HD) u1 (Or.inr (Or.inl ⟨_, _, rfl, rfl⟩))))
      have t2 : (w2.setCell ⟨b, o + j * 3 + 1, none⟩ (.string (mtx (m + 1)))).cell? ⟨b, o + j * 3 + 2, none⟩ = some (.int .i64 q) := by rw [World.cell?_setCell_other _ _ _ _ (by simp)]; exact u2
      have HL2 := hide (fun x : Int => hl2.trans (Like.set (unhide HD) t2 (v := .int .i64 x) (Or.inl ⟨_, _, rfl, rfl⟩)))
      clear hl2 t2 hf2 hb2 HMT HL1 HF1 X1 X2 HBL1 y0 z0
      go_wp2_with fail
      go_roundw
      case rel => exact ⟨j + 1, m + 3, by omega, by have := unhide HM; omega, by go_num, by go_num, HL.out.trans (unhide HL2 _)⟩
      case measure => simp [intOf]; omega
    · go_wp2_with fail
      go_ret
      obtain rfl : j = n := by omega
      exact ⟨by rw [hm]; rfl, HL.out⟩

set_option maxHeartbeats 1600000 in
theorem markDiskMoveS_shp (D : Nat → Prop) (v : Value) (n : Nat) (k : Nat) (w : World) (hv : MShp D w v n) (hk0 : 0 < k) (hk : k + 2 * n ≤ 1099511627776) :
    Calls Tryz.prog 43 #[v, .int .i64 k] w fun e w' => e = .returned (.int .i64 (k + 2 * n : Nat)) ∧ Like D w w' := by
  have HV := hide hv
  obtain ⟨a, cap, rfl, hlen, -⟩ := hv
  go_enter Tryz.func43, Tryz.ntmps43
  go_wp2_with fail
  go_loopw [1, 5] (fun kk i wr => ∃ (j m : Nat), j ≤ n ∧ m = k + 2 * j ∧ kk = .int .i64 (m : Nat) ∧ i = .int .i64 j ∧ Hid (Like D w wr)) (fun _ i _ => n - (intOf i).toNat)
  case atStart => exact ⟨0, k, Nat.zero_le _, by omega, rfl, rfl, Like.refl _ _⟩
  case round =>
    obtain ⟨j, m, hj, hm, rfl, rfl, HL⟩ := hrel
    by_cases hlt : j < n
    · have hs := (unhide HV).like HL.out
      obtain ⟨a', cap', e, -, hc⟩ := hs
      cases e
      obtain ⟨b, o, x, s, rfl, hd, hf, c0, c1⟩ := hc j hlt
      have hblt : b < wr.heap.size := World.block_lt_of_cell? wr _ c0
      have HD := hide hd; have HM := hide hm
      have hmb2 : m + 2 ≤ 1099511627776 := by omega
      have hm0 : 0 < m := by omega
      have z0 := hf (o + j * 2)
      have hl1 : ∀ y : Bool, Like D wr (wr.setCell ⟨b, o + j * 2, none⟩ (.bool y)) := fun y => Like.set hd c0 (Or.inr (Or.inr (Or.inr ⟨_, _, rfl, rfl⟩)))
      have hf1 : ∀ y : Bool, FreeB (wr.setCell ⟨b, o + j * 2, none⟩ (.bool y)) b := fun y => hf.set _ _
      have x1 : ∀ y : Bool, (wr.setCell ⟨b, o + j * 2, none⟩ (.bool y)).cell? ⟨b, o + j * 2 + 1, none⟩ = some (.string s) := fun y => by rw [World.cell?_setCell_other _ _ _ _ (by simp)]; exact c1
      have hmt : ∀ y : Bool, Calls Tryz.prog 44 #[.int .i64 ((m : Int) + 1)] (wr.setCell ⟨b, o + j * 2, none⟩ (.bool y)) fun e w' => e = .returned (.string (mtx (m + 1))) ∧ Below (wr.setCell ⟨b, o + j * 2, none⟩ (.bool y)).heap.size (wr.setCell ⟨b, o + j * 2, none⟩ (.bool y)) w' := fun y => by
        have := markText_any (m + 1) (wr.setCell ⟨b, o + j * 2, none⟩ (.bool y)) (by omega) (by omega)
        rwa [show ((m + 1 : Nat) : Int) = (m : Int) + 1 by omega] at this
      have HL1 := hide hl1; have HF1 := hide hf1; have X1 := hide x1; have HMT := hide hmt
      clear hf hd hc hm hl1 hf1 x1 hmt c1
      go_wp2_with fail
      refine (unhide HMT _).mono ?_
      rintro e w2 ⟨rfl, hb2⟩
      have u1 : w2.cell? ⟨b, o + j * 2 + 1, none⟩ = some (.string s) := by rw [hb2.cell (p := ⟨b, o + j * 2 + 1, none⟩) (Nat.lt_of_lt_of_le hblt (unhide HL1 _).size)]; exact unhide X1 _
      have hf2 := (unhide HF1 _).of_block (hb2.block b (Nat.lt_of_lt_of_le hblt (unhide HL1 _).size))
      have z1 := hf2 (o + j * 2 + 1)
      have HL2 := hide ((unhide HL1 _).trans ((Like.of_below hb2).trans (Like.set (unhide HD) u1 (v := .string (mtx (m + 1))) (Or.inr (Or.inl ⟨_, _, rfl, rfl⟩)))))
      clear hf2 hb2 HMT HL1 HF1 X1 z0
      go_wp2_with fail
      go_roundw
      case rel => exact ⟨j + 1, m + 2, by omega, by have := unhide HM; omega, by go_num, by go_num, HL.out.trans (unhide HL2)⟩
      case measure => simp [intOf]; omega
    · go_wp2_with fail
      go_ret
      obtain rfl : j = n := by omega
      exact ⟨by rw [hm]; rfl, HL.out⟩

/-- How many marks a disk takes. -/
def mkD (d : Dk) : Nat := 3 * d.files.length + d.names.length + 2 * d.moves.length

set_option maxHeartbeats 800000 in
theorem markDisk_shp (D : Nat → Prop) (d : Dk) (c : C3) (k : Nat) (w : World) (hv : DShp D w d c) (hD : ∀ b, D b → b < w.heap.size) (hk0 : 0 < k) (hk : k + mkD d ≤ 1099511627776) :
    Calls Tryz.prog 15 #[.agg #[c.c0, c.c1, c.c2], .int .i64 k] w fun e w' => e = .returned (.int .i64 (k + mkD d : Nat)) ∧ Like D w w' := by
  obtain ⟨c0, c1, c2⟩ := c
  unfold mkD at hk
  have hla : ∀ o, Like D w (w.alloc o) := fun o => Like.of_below ((Below.refl _ _).alloc (Nat.le_refl _) o)
  have HV := hide hv; have HLA := hide hla
  have HROW := hide (row3_alloc w c0 c1 c2 37)
  have HDN := hide (show ¬ D w.heap.size from fun h => by have := hD _ h; omega)
  have HF := hide (fun o => markDiskFileS_shp D c0 d.files.length k (w.alloc o) ((hv.fs.like (hla o))) hk0 (by omega))
  obtain ⟨a0, p0, g0, -, -⟩ := hv.fs
  obtain ⟨a1, p1, g1, -, -⟩ := hv.ns
  obtain ⟨a2, p2, g2, -, -⟩ := hv.ms
  simp only at g0 g1 g2
  subst g0 g1 g2
  clear hv hla hD
  go_enter Tryz.func15, Tryz.ntmps15
  go_wp2_with fail
  refine (unhide HF _).mono ?_
  rintro e w1 ⟨rfl, hl1⟩
  have hb1 := hl1.block w.heap.size (by simp) (unhide HDN)
  have q1 := (unhide HROW).of_block hb1
  have k1 := q1.cell (i := 1) (by omega); have k2 := q1.cell (i := 2) (by omega)
  simp only [row3] at k1 k2
  have hl01 := (unhide HLA _).trans hl1
  have HN := hide (markStringS_shp D (.slice a1 d.names.length p1) d.names.length (k + 3 * d.files.length) w1 ((unhide HV).ns.like hl01) (by omega) (by omega))
  have HL1 := hide hl01; have Q1 := hide q1
  have hs1 : w.heap.size < w1.heap.size := q1.lt
  clear hl1 hb1 q1 hl01 HF
  go_wp2_with fail
  refine (unhide HN).mono ?_
  rintro e w2 ⟨rfl, hl2⟩
  have q2 := (unhide Q1).of_block (hl2.block w.heap.size hs1 (unhide HDN))
  have k2 := q2.cell (i := 2) (by omega)
  simp only [row3] at k2
  have hl02 := (unhide HL1).trans hl2
  have HM := hide (markDiskMoveS_shp D (.slice a2 d.moves.length p2) d.moves.length (k + 3 * d.files.length + d.names.length) w2 ((unhide HV).ms.like hl02) (by omega) (by omega))
  have HL2 := hide hl02
  clear hl2 q2 hl02 HN HL1 Q1 k1
  go_wp2_with fail
  refine (unhide HM).mono ?_
  rintro e w3 ⟨rfl, hl3⟩
  have HL3 := hide ((unhide HL2).trans hl3)
  clear hl3
  go_wp2_with fail
  go_ret
  exact ⟨by unfold mkD; rw [show k + (3 * d.files.length + d.names.length + 2 * d.moves.length) = k + 3 * d.files.length + d.names.length + 2 * d.moves.length by omega]; rfl, unhide HL3⟩
end Go.Proofs.YtgdiankfnemjjaaGreat
