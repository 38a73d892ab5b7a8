/- The walks of the law's functions on lists of raw writes and on acts: what they answer, and that they turn nothing that was there but what they mark. No conditions but the weights, at most 2^20. -/
import Derived.Test.YtgdiankfnemjjaaGreatPart18
import Derived.Test.YtgdiankfnemjjaaGreatPart14
import Derived.Test.YtgdiankfnemjjaaGreatPart15
import Derived.Test.YtgdiankfnemjjaaGreatPart17
namespace Go.Proofs.YtgdiankfnemjjaaGreat
open Go Go.RowKit

def wW : List Wr → Nat
  | [] => 0
  | f :: r => f.x.size + f.y.size + 1 + wW r
theorem wW_take (l : List Wr) (k : Nat) (h : k < l.length) : wW (l.take (k + 1)) = wW (l.take k) + l[k].x.size + l[k].y.size + 1 := by
  induction l generalizing k with
  | nil => simp at h
  | cons a r ih =>
    cases k with
    | zero => simp [wW]
    | succ k => simp only [List.take_succ_cons, wW, List.getElem_cons_succ]; rw [ih k (by simpa using h)]; omega
theorem wW_len (l : List Wr) : l.length ≤ wW l := by
  induction l with
  | nil => simp
  | cons a r ih => rw [wW, List.length_cons]; omega
theorem wW_mem {l : List Wr} {x : Wr} (h : x ∈ l) : x.x.size + x.y.size ≤ wW l := by
  induction l with
  | nil => cases h
  | cons a r ih =>
    rcases List.mem_cons.1 h with rfl | h
    · rw [wW]; omega
    · have := ih h; rw [wW]; omega
theorem szDiskWriteW_any (f : Wr) (hf : f.okM) (left : Int) (w : World) (h0 : 0 ≤ left) (h1 : left ≤ 1048576) :
    Calls Tryz.prog 22 #[.agg #[.int .i64 f.k, .string f.x, .string f.y], .int .i64 left] w fun e w' => ∃ r : Int, e = .returned (.int .i64 r) ∧ (r = -1 ∨ (0 ≤ r ∧ r + (f.x.size + f.y.size : Nat) = left)) ∧ Below w.heap.size w w' :=
  (szDiskWrite_any f.k f.x f.y left w h0 h1 hf.1 hf.2).mono fun e w' ⟨⟨r, he, hr⟩, hb⟩ => ⟨r, he, hr.imp id fun h => ⟨h.1, by omega⟩, hb⟩
set_option maxHeartbeats 800000 in
theorem szDiskWriteS_any (v : Value) (fs : List Wr) (left : Int) (w : World) {P : Nat → Prop} (hP : ∀ b, P b → b < w.heap.size) (hv : WsAt P w v fs) (h0 : 0 ≤ left) (h1 : left ≤ 1048576) :
    Calls Tryz.prog 5 #[v, .int .i64 left] w fun e w' => ∃ r : Int, e = .returned (.int .i64 r) ∧ (r = -1 ∨ (0 ≤ r ∧ r + wW fs = left)) ∧ Below w.heap.size w w' := by
  obtain ⟨a, cap, rfl, hlen, hc⟩ := hv.open
  have HC := hide hc; have HP := hide hP; clear hc hP hv
  by_cases hneg : left - fs.length < 0
  · go_enter Tryz.func5, Tryz.ntmps5
    go_wp2_with fail
    go_ret
    exact ⟨_, rfl, Or.inl rfl, Below.refl _ _⟩
  · go_enter Tryz.func5, Tryz.ntmps5
    go_wp2_with fail
    go_loopw [1, 5] (fun l i wr => ∃ (k : Nat) (q : Int), k ≤ fs.length ∧ i = .int .i64 k ∧ l = .int .i64 q ∧ 0 ≤ q ∧ q ≤ 1048576 ∧ Hid (q + fs.length + wW (fs.take k) = left + k) ∧ Below w.heap.size w wr) (fun _ i _ => fs.length - (intOf i).toNat)
    case atStart => exact ⟨0, _, Nat.zero_le _, rfl, rfl, by omega, by omega, by simp [Hid, wW], Below.refl _ _⟩
    case round =>
      obtain ⟨k, q, hk, rfl, rfl, hq0, hq1, HQ, hb⟩ := hrel
      by_cases hlt : k < fs.length
      · obtain ⟨b, o, rfl, hpb, hcell, hok⟩ := unhide HC k hlt
        have hcell' := hcell.carry (hb.block b (unhide HP b hpb))
        obtain ⟨e0, e1, e2⟩ := hcell'
        simp only at e0 e1 e2
        have HT := hide (wW_take fs k hlt)
        have HS := hide (szDiskWriteW_any fs[k] hok q wr hq0 hq1)
        clear hcell hpb hok
        generalize fs[k] = f at *
        go_wp2_with fail
        refine (unhide HS).mono ?_
        rintro e w' ⟨r, rfl, hr, hb'⟩
        have hb2 := hb.trans (hb'.mono hb.size)
        clear hb' HS
        rcases hr with rfl | ⟨hr0, hr1⟩
        · go_wp2_with fail
          go_ret
          exact ⟨_, rfl, Or.inl rfl, hb2⟩
        · have HR1 := hide hr1; clear hr1
          have hr2 : r ≤ 1048576 := by have := unhide HR1; omega
          go_wp2_with fail
          go_roundw
          case rel => exact ⟨k + 1, _, by omega, by go_num, rfl, by omega, by omega, by have := HQ.out; have := unhide HT; have := unhide HR1; show _ = _; omega, hb2⟩
          case measure => simp [intOf]; omega
      · go_wp2_with fail
        go_ret
        refine ⟨_, rfl, Or.inr ⟨hq0, ?_⟩, hb⟩
        have := HQ.out
        rw [List.take_of_length_le (by omega)] at this
        omega

def zWq : Array Value := #[.int .i64 0, .string ByteArray.empty, .string ByteArray.empty]
theorem infoWriteQ : (Tryz.prog.info? 63).map (fun i => (i.zero, i.size, i.bytes)) = some (some (.agg zWq), 3, 40) := by kernel_rfl
theorem run_make_write (n : Nat) (h : n ≤ 1048576) (w : World) :
    (Instr.makeSlice 41 (.int .i64 (n : Int)) (.int .i64 (n : Int))).run Tryz.prog w = .ok (.slice (some ⟨w.heap.size, 0, none⟩) n n) (w.alloc (.cells (madeCells zWq (n * 3)) 63)) := by
  obtain ⟨i, hi, he⟩ : ∃ i, Tryz.prog.info? 63 = some i ∧ (i.zero, i.size, i.bytes) = (some (.agg zWq), 3, 40) := by
    have := infoWriteQ
    cases h : Tryz.prog.info? 63 with
    | none => rw [h] at this; simp at this
    | some i => rw [h] at this; exact ⟨i, rfl, by simpa using this⟩
  simp only [Prod.mk.injEq] at he
  obtain ⟨e1, e2, e3⟩ := he
  have := run_make (P := Tryz.prog) w 41 63 i (.agg zWq) Tryz.underlying41 hi e1 .i64 .i64 n n (by omega) (by omega) (by rw [e3]; omega) (by omega)
  rw [this, e2]
  simp [Value.cells]
set_option maxHeartbeats 800000 in
theorem toDiskWriteS_any (v : Value) (fs : List Wr) (w : World) {P : Nat → Prop} (hP : ∀ b, P b → b < w.heap.size) (hv : WsAt P w v fs) (h1 : fs.length ≤ 1048576) :
    Calls Tryz.prog 9 #[v] w fun e w' => ∃ a, e = .returned (.slice a fs.length fs.length) ∧ WsAt (NewF w w') w' (.slice a fs.length fs.length) fs ∧ Below w.heap.size w w' := by
  obtain ⟨a, cap, rfl, hlen, hc⟩ := hv.open
  have HC := hide hc; have HP := hide hP; have HOK := hide hv.2; clear hc hP hv
  have hmk := run_make_write fs.length h1
  go_enter Tryz.func9, Tryz.ntmps9
  go_wp2_with fail
  clear hmk
  go_loopw [4] (fun i wr => ∃ (k : Nat), k ≤ fs.length ∧ i = .int .i64 k ∧ Hid (FLaid w wr 63 3 (fs.map Wr.cs) k) ∧ Below w.heap.size w wr) (fun i _ => fs.length - (intOf i).toNat)
  case atStart =>
    have h0 := FLaid.start w 63 3 zWq (fs.map Wr.cs)
    rw [List.length_map] at h0
    exact ⟨0, Nat.zero_le _, rfl, hide h0, (Below.refl _ _).alloc (Nat.le_refl _) _⟩
  case round =>
    obtain ⟨k, hk, rfl, HL, hb⟩ := hrel
    by_cases hlt : k < fs.length
    · obtain ⟨b, o, rfl, hpb, hcell, hok⟩ := unhide HC k hlt
      have hcell' := hcell.carry (hb.block b (unhide HP b hpb))
      obtain ⟨e0, e1, e2⟩ := hcell'
      simp only at e0 e1 e2
      have HS := hide (toDiskWrite_any fs[k].k fs[k].x fs[k].y wr)
      have HE := hide (show (fs.map Wr.cs)[k]'(by rw [List.length_map]; exact hlt) = [.int .i64 fs[k].k, .string fs[k].x, .string fs[k].y] by rw [List.getElem_map]; rfl)
      clear hcell hpb hok
      generalize fs[k] = f at *
      go_wp2_with fail
      refine (unhide HS).mono ?_
      rintro e w' ⟨rfl, hb'⟩
      have hlk : k < (fs.map Wr.cs).length := by rw [List.length_map]; exact hlt
      have hrow := HL.out
      obtain ⟨ff, hrow, -⟩ := hrow
      have hrow' := hrow.of_block (hb'.block _ hrow.lt)
      rw [List.length_map] at hrow'
      have z0 := hrow'.frozen (k * 3); have z1 := hrow'.frozen (k * 3 + 1); have z2 := hrow'.frozen (k * 3 + 2)
      have y0 := hrow'.cell (i := k * 3) (by omega); have y1 := hrow'.cell (i := k * 3 + 1) (by omega); have y2 := hrow'.cell (i := k * 3 + 2) (by omega)
      have HB' := hide hb'
      clear hrow hrow' hb' HS e0 e1 e2
      go_wp2_with fail
      go_roundw
      case rel =>
        have hb3 := hb.trans (HB'.out.mono hb.size)
        exact ⟨k + 1, by omega, by go_num, FLaid.step3 hlk HL.out HB'.out _ _ _ (unhide HE), ((hb3.setCell (Nat.le_refl _) _).setCell (Nat.le_refl _) _).setCell (Nat.le_refl _) _⟩
      case measure => simp [intOf]; omega
    · go_wp2_with fail
      go_ret
      obtain rfl : k = fs.length := by omega
      have hd := HL.out
      have hd2 : FlatAt (NewF w wr) wr (.slice (some ⟨w.heap.size, 0, none⟩) (fs.map Wr.cs).length (fs.map Wr.cs).length) 3 (fs.map Wr.cs) := FLaid.done (by rw [List.length_map]; exact hd) (by rw [List.length_map]; exact h1)
      rw [List.length_map] at hd2
      exact ⟨_, rfl, ⟨hd2, unhide HOK⟩, hb⟩

set_option maxHeartbeats 400000 in
theorem eqDiskWrite_any (f : Wr) (w : World) :
    Calls Tryz.prog 39 #[.agg #[.int .i64 f.k, .string f.x, .string f.y], .agg #[.int .i64 f.k, .string f.x, .string f.y]] w fun e w' => e = .returned (.bool true) ∧ Below w.heap.size w w' := by
  have hb0 : ∀ o o2, Below w.heap.size w ((w.alloc o).alloc o2) := fun o o2 => ((Below.refl _ _).alloc (Nat.le_refl _) o).alloc (by simp) o2
  go_enter Tryz.func39, Tryz.ntmps39
  go_wp2_with fail
  go_ret
  exact ⟨rfl, hb0 _ _⟩
set_option maxHeartbeats 800000 in
theorem eqDiskWriteS_any (v v2 : Value) (fs : List Wr) (w : World) {P Q : Nat → Prop} (hP : ∀ b, P b → b < w.heap.size) (hQ : ∀ b, Q b → b < w.heap.size) (hv : WsAt P w v fs) (hv2 : WsAt Q w v2 fs) :
    Calls Tryz.prog 13 #[v, v2] w fun e w' => e = .returned (.bool true) ∧ Below w.heap.size w w' := by
  obtain ⟨a, cap, rfl, hlen, hc⟩ := hv.open
  obtain ⟨a2, cap2, rfl, -, hc2⟩ := hv2.open
  have HC := hide hc; have HC2 := hide hc2; have HP := hide hP; have HQ := hide hQ; clear hc hc2 hP hQ hv hv2
  go_enter Tryz.func13, Tryz.ntmps13
  go_wp2_with fail
  go_loopw [5] (fun i wr => ∃ (k : Nat), k ≤ fs.length ∧ i = .int .i64 k ∧ Below w.heap.size w wr) (fun i _ => fs.length - (intOf i).toNat)
  case atStart => exact ⟨0, Nat.zero_le _, rfl, Below.refl _ _⟩
  case round =>
    obtain ⟨k, hk, rfl, hb⟩ := hrel
    by_cases hlt : k < fs.length
    · obtain ⟨b, o, rfl, hpb, hcell, -⟩ := unhide HC k hlt
      obtain ⟨b2, o2, rfl, hpb2, hcell2, -⟩ := unhide HC2 k hlt
      obtain ⟨e0, e1, e2⟩ := hcell.carry (hb.block b (unhide HP b hpb))
      obtain ⟨g0, g1, g2⟩ := hcell2.carry (hb.block b2 (unhide HQ b2 hpb2))
      simp only at e0 e1 e2 g0 g1 g2
      have HCALL := hide (eqDiskWrite_any fs[k] wr.drew)
      clear hcell hpb hcell2 hpb2
      generalize fs[k] = f at *
      go_wp2_with fail
      go_region_with (go_at_call 39; refine (unhide HCALL).mono ?_; rintro e w' ⟨rfl, hb'⟩)
      all_goals
        have hb2 := hb.drew.trans (hb'.mono hb.drew.size)
        go_wp2_with fail
        go_roundw
        case rel => exact ⟨k + 1, by omega, by go_num, hb2⟩
        case measure => simp [intOf]; omega
    · go_wp2_with fail
      go_ret
      exact ⟨rfl, hb⟩

/-- A slice of so many writes, in blocks of D of which nothing is frozen. -/
def WShp (D : Nat → Prop) (w : World) (v : Value) (n : Nat) : Prop :=
  ∃ a cap, v = .slice a n cap ∧ n ≤ 9223372036854775807 ∧ ∀ i, i < n → ∃ b o k s1 s2, a = some ⟨b, o, none⟩ ∧ D b ∧ FreeB w b ∧ w.cell? ⟨b, o + i * 3, none⟩ = some (.int .i64 k) ∧ w.cell? ⟨b, o + i * 3 + 1, none⟩ = some (.string s1) ∧ w.cell? ⟨b, o + i * 3 + 2, none⟩ = some (.string s2)
theorem WShp.like {D : Nat → Prop} {w w' : World} {v : Value} {n : Nat} (h : WShp D w v n) (hl : Like D w w') : WShp D w' v n := by
  obtain ⟨a, cap, h1, h2, h3⟩ := h
  refine ⟨a, cap, h1, h2, fun i hi => ?_⟩
  obtain ⟨b, o, k, s1, s2, e, hd, hf, c0, c1, c2⟩ := h3 i hi
  obtain ⟨v0, hv0, l0⟩ := hl.cell _ _ _ c0
  obtain ⟨v1, hv1, l1⟩ := hl.cell _ _ _ c1
  obtain ⟨v2, hv2, l2⟩ := hl.cell _ _ _ c2
  obtain ⟨k', rfl⟩ := l0.int
  obtain ⟨s1', rfl⟩ := l1.str
  obtain ⟨s2', rfl⟩ := l2.str
  exact ⟨b, o, k', s1', s2', e, hd, hl.free b (World.block_lt_of_cell? w _ c0) hf, hv0, hv1, hv2⟩
theorem WsAt.shp {D : Nat → Prop} {w : World} {v : Value} {ws : List Wr} (h : WsAt D w v ws) (hf : ∀ b, D b → FreeB w b) : WShp D w v ws.length := by
  obtain ⟨a, cap, h1, h2, h3⟩ := h.open
  refine ⟨a, cap, h1, h2, fun i hi => ?_⟩
  obtain ⟨b, o, e, hb, ⟨c0, c1, c2⟩, -⟩ := h3 i hi
  exact ⟨b, o, _, _, _, e, hb, hf b hb, c0, c1, c2⟩
set_option maxHeartbeats 1600000 in
theorem markDiskWriteS_shp (D : Nat → Prop) (v : Value) (n : Nat) (k : Nat) (w : World) (hv : WShp D w v n) (hk0 : 0 < k) (hk : k + 3 * n ≤ 1099511627776) :
    Calls Tryz.prog 16 #[v, .int .i64 k] w fun e w' => e = .returned (.int .i64 (k + 3 * n : Nat)) ∧ Like D w w' := by
  have HV := hide hv
  obtain ⟨a, cap, rfl, hlen, -⟩ := hv
  go_enter Tryz.func16, Tryz.ntmps16
  go_wp2_with fail
  go_loopw [1, 5] (fun kk i wr => ∃ (j m : Nat), j ≤ n ∧ m = k + 3 * j ∧ kk = .int .i64 (m : Nat) ∧ i = .int .i64 j ∧ Hid (Like D w wr)) (fun _ i _ => n - (intOf i).toNat)
  case atStart => exact ⟨0, k, Nat.zero_le _, by omega, rfl, rfl, Like.refl _ _⟩
  case round =>
    obtain ⟨j, m, hj, hm, rfl, rfl, HL⟩ := hrel
    by_cases hlt : j < n
    · have hs := (unhide HV).like HL.out
      obtain ⟨a', cap', e, -, hc⟩ := hs
      cases e
      obtain ⟨b, o, q, s1, s2, rfl, hd, hf, c0, c1, c2⟩ := hc j hlt
      have hblt : b < wr.heap.size := World.block_lt_of_cell? wr _ c0
      have z0 := hf (o + j * 3)
      have hmb : m ≤ 1099511627000 + 776 := by omega
      have hmb2 : m + 3 ≤ 1099511627776 := by omega
      have hm0 : 0 < m := by omega
      have hl0 : Like D wr (wr.setCell ⟨b, o + j * 3, none⟩ (.int .i64 (m : Int))) := Like.set hd c0 (Or.inl ⟨_, _, rfl, rfl⟩)
      have hf0 : FreeB (wr.setCell ⟨b, o + j * 3, none⟩ (.int .i64 (m : Int))) b := hf.set _ _
      have x1 : (wr.setCell ⟨b, o + j * 3, none⟩ (.int .i64 (m : Int))).cell? ⟨b, o + j * 3 + 1, none⟩ = some (.string s1) := by rw [World.cell?_setCell_other _ _ _ _ (by simp)]; exact c1
      have x2 : (wr.setCell ⟨b, o + j * 3, none⟩ (.int .i64 (m : Int))).cell? ⟨b, o + j * 3 + 2, none⟩ = some (.string s2) := by rw [World.cell?_setCell_other _ _ _ _ (by simp)]; exact c2
      have hblt0 : b < (wr.setCell ⟨b, o + j * 3, none⟩ (.int .i64 (m : Int))).heap.size := Nat.lt_of_lt_of_le hblt hl0.size
      have hmt : Calls Tryz.prog 44 #[.int .i64 ((m : Int) + 1)] (wr.setCell ⟨b, o + j * 3, none⟩ (.int .i64 (m : Int))) fun e w' => e = .returned (.string (mtx (m + 1))) ∧ Below (wr.setCell ⟨b, o + j * 3, none⟩ (.int .i64 (m : Int))).heap.size (wr.setCell ⟨b, o + j * 3, none⟩ (.int .i64 (m : Int))) w' := by
        have := markText_any (m + 1) (wr.setCell ⟨b, o + j * 3, none⟩ (.int .i64 (m : Int))) (by omega) (by omega)
        rwa [show ((m + 1 : Nat) : Int) = (m : Int) + 1 by omega] at this
      have HMT := hide hmt; have HL0 := hide hl0; have HF0 := hide hf0; have X1 := hide x1; have X2 := hide x2; have HB0 := hide hblt0; have HD := hide hd; have HM := hide hm
      clear c1 c2 hf hd hc hm hmt hl0 hf0 x1 x2 hblt0
      go_wp2_with fail
      refine (unhide HMT).mono ?_
      rintro e w1 ⟨rfl, hb1⟩
      have y1 : w1.cell? ⟨b, o + j * 3 + 1, none⟩ = some (.string s1) := by rw [hb1.cell (p := ⟨b, o + j * 3 + 1, none⟩) (unhide HB0)]; exact unhide X1
      have y2 : w1.cell? ⟨b, o + j * 3 + 2, none⟩ = some (.string s2) := by rw [hb1.cell (p := ⟨b, o + j * 3 + 2, none⟩) (unhide HB0)]; exact unhide X2
      have hf1 := (unhide HF0).of_block (hb1.block b (unhide HB0))
      have z1 := hf1 (o + j * 3 + 1)
      have hl1 : Like D wr (w1.setCell ⟨b, o + j * 3 + 1, none⟩ (.string (mtx (m + 1)))) := (unhide HL0).trans ((Like.of_below hb1).trans (Like.set (unhide HD) y1 (Or.inr (Or.inl ⟨_, _, rfl, rfl⟩))))
      have hf1' : FreeB (w1.setCell ⟨b, o + j * 3 + 1, none⟩ (.string (mtx (m + 1)))) b := hf1.set _ _
      have x2 : (w1.setCell ⟨b, o + j * 3 + 1, none⟩ (.string (mtx (m + 1)))).cell? ⟨b, o + j * 3 + 2, none⟩ = some (.string s2) := by rw [World.cell?_setCell_other _ _ _ _ (by simp)]; exact y2
      have hblt1 : b < (w1.setCell ⟨b, o + j * 3 + 1, none⟩ (.string (mtx (m + 1)))).heap.size := Nat.lt_of_lt_of_le hblt hl1.size
      have hmt : Calls Tryz.prog 44 #[.int .i64 ((m : Int) + 1 + 1)] (w1.setCell ⟨b, o + j * 3 + 1, none⟩ (.string (mtx (m + 1)))) fun e w' => e = .returned (.string (mtx (m + 2))) ∧ Below (w1.setCell ⟨b, o + j * 3 + 1, none⟩ (.string (mtx (m + 1)))).heap.size (w1.setCell ⟨b, o + j * 3 + 1, none⟩ (.string (mtx (m + 1)))) w' := by
        have := markText_any (m + 2) (w1.setCell ⟨b, o + j * 3 + 1, none⟩ (.string (mtx (m + 1)))) (by omega) (by omega)
        rwa [show ((m + 2 : Nat) : Int) = (m : Int) + 1 + 1 by omega] at this
      have HMT2 := hide hmt; have HL1 := hide hl1; have HF1 := hide hf1'; have X22 := hide x2; have HB1 := hide hblt1
      clear hmt hl1 hf1 hf1' x2 hblt1 hb1 y2 HMT HL0 HF0 X1 X2 HB0 c0 z0
      go_wp2_with fail
      refine (unhide HMT2).mono ?_
      rintro e w2 ⟨rfl, hb2⟩
      have u2 : w2.cell? ⟨b, o + j * 3 + 2, none⟩ = some (.string s2) := by rw [hb2.cell (p := ⟨b, o + j * 3 + 2, none⟩) (unhide HB1)]; exact unhide X22
      have hf2 := (unhide HF1).of_block (hb2.block b (unhide HB1))
      have z2 := hf2 (o + j * 3 + 2)
      have HL2 := hide ((unhide HL1).trans ((Like.of_below hb2).trans (Like.set (unhide HD) u2 (v := .string (mtx (m + 2))) (Or.inr (Or.inl ⟨_, _, rfl, rfl⟩)))))
      clear hf2 hb2 HMT2 HL1 HF1 X22 HB1 y1 z1
      go_wp2_with fail
      go_roundw
      case rel => exact ⟨j + 1, m + 3, by omega, by have := unhide HM; omega, by go_num, by go_num, HL.out.trans (unhide HL2)⟩
      case measure => simp [intOf]; omega
    · go_wp2_with fail
      go_ret
      obtain rfl : j = n := by omega
      subst hm
      exact ⟨rfl, HL.out⟩
theorem szIntL_any (v : Value) (zs : List Int) (P : Nat → Prop) (left : Int) (w : World) (hv : ZsAt P w v zs) (h0 : 0 ≤ left) (h1 : left ≤ 1048576) :
    Calls Tryz.prog 23 #[v, .int .i64 left] w fun e w' => ∃ r : Int, e = .returned (.int .i64 r) ∧ (r = -1 ∨ (0 ≤ r ∧ r + zs.length = left)) ∧ w' = w := by
  obtain ⟨a, cap, rfl, hlen, -⟩ := hv
  by_cases hneg : left - zs.length < 0
  · go_enter Tryz.func23, Tryz.ntmps23
    go_wp2_with fail
    go_ret
    exact ⟨_, rfl, Or.inl rfl, rfl⟩
  · go_enter Tryz.func23, Tryz.ntmps23
    go_wp2_with fail
    go_ret
    exact ⟨_, rfl, Or.inr ⟨by omega, by omega⟩, rfl⟩
set_option maxRecDepth 100000 in
set_option maxHeartbeats 1600000 in
theorem szLogAct_any (a : Ac) (v : Value) (P : Nat → Prop) (left : Int) (w : World) (hP : ∀ b, P b → b < w.heap.size) (hv : ZsAt P w v a.keep) (hd : a.data.size ≤ 9223372036854775807) (h0 : 0 ≤ left) (h1 : left ≤ 1048576) :
    Calls Tryz.prog 6 #[.agg #[.int .i64 a.kind, .string a.data, .bool a.cuts, .int .i64 a.after, .int .i64 a.moves, v], .int .i64 left] w fun e w' => (∃ r : Int, e = .returned (.int .i64 r) ∧ (r = -1 ∨ (0 ≤ r ∧ r + a.data.size + a.keep.length = left))) ∧ Below w.heap.size w w' := by
  have hbx : ∀ o, Below w.heap.size w (w.alloc o) := fun o => (Below.refl _ _).alloc (Nat.le_refl _) o
  have HBX := hide hbx
  by_cases c1 : left - (a.data.size : Int) < 0
  · have e1 : IntKind.i64.wrap (left - (a.data.size : Int)) = left - (a.data.size : Int) := by rw [IntKind.wrap_i64]; omega
    obtain ⟨av, cap, rfl, hlen, -⟩ := hv
    clear hbx hP
    go_enter Tryz.func6, Tryz.ntmps6
    go_wp2_with fail
    go_ret
    exact ⟨⟨-1, rfl, Or.inl rfl⟩, unhide HBX _⟩
  · have e1 : IntKind.i64.wrap (left - (a.data.size : Int)) = left - (a.data.size : Int) := by rw [IntKind.wrap_i64]; omega
    have HZ := hide (fun o => szIntL_any v a.keep P (left - (a.data.size : Int)) (w.alloc o) (hv.carry (fun b hb => (hbx o).block b (hP b hb)) (fun _ h => h)) (by omega) (by omega))
    obtain ⟨av, cap, rfl, hlen, -⟩ := hv
    clear hbx hP
    go_enter Tryz.func6, Tryz.ntmps6
    go_wp2_with fail
    refine (unhide HZ _).mono ?_
    rintro e w' ⟨r, rfl, hr, hw⟩
    have hw2 := hw.symm
    subst hw2
    rcases hr with rfl | ⟨hr0, hr1⟩
    · go_wp2_with fail
      go_ret
      exact ⟨⟨-1, rfl, Or.inl rfl⟩, unhide HBX _⟩
    · have HR := hide hr1; clear hr1
      go_wp2_with fail
      go_ret
      exact ⟨⟨_, rfl, Or.inr ⟨hr0, by have := unhide HR; omega⟩⟩, unhide HBX _⟩
def r6A (a b c d e f : Value) : Nat → Value
  | 0 => a
  | 1 => b
  | 2 => c
  | 3 => d
  | 4 => e
  | _ => f
theorem r6A_alloc (w : World) (a b c d e f : Value) (t : TypeId) : (w.alloc (.cells #[a, b, c, d, e, f] t)).rowIs w.heap.size t 6 (r6A a b c d e f) :=
  World.rowIs_alloc w #[a, b, c, d, e, f] t _ (fun i hi => by
    have hi' : i < 6 := by simpa using hi
    rcases (show i = 0 ∨ i = 1 ∨ i = 2 ∨ i = 3 ∨ i = 4 ∨ i = 5 by omega) with rfl | rfl | rfl | rfl | rfl | rfl <;> rfl)
set_option maxRecDepth 100000 in
set_option maxHeartbeats 1600000 in
theorem toLogAct_any (a : Ac) (v : Value) (P : Nat → Prop) (w : World) (hP : ∀ b, P b → b < w.heap.size) (hv : ZsAt P w v a.keep) (hl : a.keep.length ≤ 1048576) :
    Calls Tryz.prog 10 #[.agg #[.int .i64 a.kind, .string a.data, .bool a.cuts, .int .i64 a.after, .int .i64 a.moves, v]] w fun e w' => ∃ v' g, e = .returned (.agg #[.int .i64 a.kind, .string a.data, .bool a.cuts, .int .i64 a.after, .int .i64 a.moves, v']) ∧ v' = .slice (some ⟨g, 0, none⟩) a.keep.length a.keep.length ∧ w.heap.size ≤ g ∧ w'.rowIs g 3 a.keep.length (fun j => .int .i64 (a.keep.getD j 0)) ∧ ZsAt (New w w') w' v' a.keep ∧ Below w.heap.size w w' := by
  have hbx : ∀ o o' o'', Below w.heap.size w (((w.alloc o).alloc o').alloc o'') := fun o o' o'' => (((Below.refl _ _).alloc (Nat.le_refl _) o).alloc (by simp) o').alloc (by simp; omega) o''
  have HZ := hide (fun o o' o'' => toIntS_any v a.keep (((w.alloc o).alloc o').alloc o'') (P := P) (fun b hb => Nat.lt_of_lt_of_le (hP b hb) (hbx o o' o'').size) (hv.carry (fun b hb => (hbx o o' o'').block b (hP b hb)) (fun _ h => h)) hl)
  have HBX := hide hbx
  have hq1 : ∀ o o'', (((w.alloc o).alloc (.cells #[.int .i64 0, .string ByteArray.empty, .bool false, .int .i64 0, .int .i64 0, .slice none 0 0] 43)).alloc o'').rowIs (w.heap.size + 1) 43 6 (r6A (.int .i64 0) (.string ByteArray.empty) (.bool false) (.int .i64 0) (.int .i64 0) (.slice none 0 0)) := fun o o'' => by
    have := (r6A_alloc (w.alloc o) (.int .i64 0) (.string ByteArray.empty) (.bool false) (.int .i64 0) (.int .i64 0) (.slice none 0 0) 43).alloc o''
    rw [World.size_alloc] at this
    exact this
  have hq2 : ∀ o o', (((w.alloc o).alloc o').alloc (.cells #[.int .i64 a.kind, .string a.data, .bool a.cuts, .int .i64 a.after, .int .i64 a.moves, .slice none 0 0] 43)).rowIs (w.heap.size + 1 + 1) 43 6 (r6A (.int .i64 a.kind) (.string a.data) (.bool a.cuts) (.int .i64 a.after) (.int .i64 a.moves) (.slice none 0 0)) := fun o o' => by
    have := r6A_alloc ((w.alloc o).alloc o') (.int .i64 a.kind) (.string a.data) (.bool a.cuts) (.int .i64 a.after) (.int .i64 a.moves) (.slice none 0 0) 43
    rw [World.size_alloc, World.size_alloc] at this
    exact this
  have HQ1 := hide hq1; have HQ2 := hide hq2
  obtain ⟨av, cap, rfl, hlen, -⟩ := hv
  clear hP hbx hq1 hq2
  go_enter Tryz.func10, Tryz.ntmps10
  go_wp2_with fail
  refine (unhide HZ _ _ _).mono ?_
  rintro e w1 ⟨v', rfl, hve, hrow, hzs, hb1⟩
  have hs1 : w.heap.size + 3 ≤ w1.heap.size := by have := hb1.size; simpa using this
  have q1 := (unhide HQ1 _ _).of_block (hb1.block (w.heap.size + 1) (by simp))
  have q2 := (unhide HQ2 _ _).of_block (hb1.block (w.heap.size + 1 + 1) (by simp))
  rw [World.size_alloc, World.size_alloc, World.size_alloc] at hve hrow
  subst hve
  have f1 := q1.frozen; have f2 := q2.frozen
  have x0 := q1.cell (i := 0) (by omega); have x1 := q1.cell (i := 1) (by omega); have x2 := q1.cell (i := 2) (by omega); have x3 := q1.cell (i := 3) (by omega); have x4 := q1.cell (i := 4) (by omega); have x5 := q1.cell (i := 5) (by omega)
  have y0 := q2.cell (i := 0) (by omega); have y1 := q2.cell (i := 1) (by omega); have y2 := q2.cell (i := 2) (by omega); have y3 := q2.cell (i := 3) (by omega); have y4 := q2.cell (i := 4) (by omega); have y5 := q2.cell (i := 5) (by omega)
  simp only [r6A] at x0 x1 x2 x3 x4 x5 y0 y1 y2 y3 y4 y5
  have hbl := (unhide HBX _ _ _).trans (hb1.mono (unhide HBX _ _ _).size)
  have HROW := hide hrow; have HZS := hide hzs; have HBL := hide hbl
  clear hrow hzs hbl hb1 q1 q2 HZ
  go_wp2_with fail
  refine bodyPost_ret (v := .agg #[.int .i64 a.kind, .string a.data, .bool a.cuts, .int .i64 a.after, .int .i64 a.moves, .slice (some ⟨w.heap.size + 1 + 1 + 1, 0, none⟩) a.keep.length a.keep.length]) (by simp [results, Tryz.results10, go_sem, x0, x1, x2, x3, x4, x5]) rfl ?_
  have hb2 := (((((((unhide HBL).setCell (p := ⟨w.heap.size + 1 + 1, 5, none⟩) (by simp; omega) (.slice (some ⟨w.heap.size + 1 + 1 + 1, 0, none⟩) a.keep.length a.keep.length)).setCell (p := ⟨w.heap.size + 1, 0, none⟩) (by simp) (.int .i64 a.kind)).setCell (p := ⟨w.heap.size + 1, 1, none⟩) (by simp) (.string a.data)).setCell (p := ⟨w.heap.size + 1, 2, none⟩) (by simp) (.bool a.cuts)).setCell (p := ⟨w.heap.size + 1, 3, none⟩) (by simp) (.int .i64 a.after)).setCell (p := ⟨w.heap.size + 1, 4, none⟩) (by simp) (.int .i64 a.moves)).setCell (p := ⟨w.heap.size + 1, 5, none⟩) (by simp) (.slice (some ⟨w.heap.size + 1 + 1 + 1, 0, none⟩) a.keep.length a.keep.length)
  have hk : ∀ b, w.heap.size + 3 ≤ b → (((((((w1.setCell ⟨w.heap.size + 1 + 1, 5, none⟩ (.slice (some ⟨w.heap.size + 1 + 1 + 1, 0, none⟩) a.keep.length a.keep.length)).setCell ⟨w.heap.size + 1, 0, none⟩ (.int .i64 a.kind)).setCell ⟨w.heap.size + 1, 1, none⟩ (.string a.data)).setCell ⟨w.heap.size + 1, 2, none⟩ (.bool a.cuts)).setCell ⟨w.heap.size + 1, 3, none⟩ (.int .i64 a.after)).setCell ⟨w.heap.size + 1, 4, none⟩ (.int .i64 a.moves)).setCell ⟨w.heap.size + 1, 5, none⟩ (.slice (some ⟨w.heap.size + 1 + 1 + 1, 0, none⟩) a.keep.length a.keep.length)).heap[b]? = w1.heap[b]? := fun b hb => by
    rw [Below.heap_setCell _ _ _ _ (by simp; omega), Below.heap_setCell _ _ _ _ (by simp; omega), Below.heap_setCell _ _ _ _ (by simp; omega), Below.heap_setCell _ _ _ _ (by simp; omega), Below.heap_setCell _ _ _ _ (by simp; omega), Below.heap_setCell _ _ _ _ (by simp; omega), Below.heap_setCell _ _ _ _ (by simp; omega)]
  refine ⟨_, _, rfl, rfl, by omega, (unhide HROW).of_block (hk _ (by omega)), (unhide HZS).carry (fun b hb => hk b (by have := hb.1; simp at this; omega)) (fun b hb => ⟨by have := hb.1; simp at this; omega, by have := hb.2; simp; omega⟩), hb2⟩
set_option maxRecDepth 100000 in
set_option maxHeartbeats 1600000 in
theorem eqLogAct_any (a : Ac) (v u : Value) (P Q : Nat → Prop) (w : World) (hP : ∀ b, P b → b < w.heap.size) (hQ : ∀ b, Q b → b < w.heap.size) (hv : ZsAt P w v a.keep) (hu : ZsAt Q w u a.keep) :
    Calls Tryz.prog 14 #[.agg #[.int .i64 a.kind, .string a.data, .bool a.cuts, .int .i64 a.after, .int .i64 a.moves, v], .agg #[.int .i64 a.kind, .string a.data, .bool a.cuts, .int .i64 a.after, .int .i64 a.moves, u]] w fun e w' => e = .returned (.bool true) ∧ Below w.heap.size w w' := by
  have hbx : ∀ o o', Below w.heap.size w ((w.alloc o).alloc o') := fun o o' => ((Below.refl _ _).alloc (Nat.le_refl _) o).alloc (by simp) o'
  have HZ := hide (fun o o' => eqIntS_any v u a.keep ((w.alloc o).alloc o') (P := P) (Q := Q) (hv.carry (fun b hb => (hbx o o').block b (hP b hb)) (fun _ h => h)) (hu.carry (fun b hb => (hbx o o').block b (hQ b hb)) (fun _ h => h)) (fun b hb => Nat.lt_of_lt_of_le (hP b hb) (hbx o o').size) (fun b hb => Nat.lt_of_lt_of_le (hQ b hb) (hbx o o').size))
  have HBX := hide hbx
  obtain ⟨av, cap, rfl, hlen, -⟩ := hv
  obtain ⟨au, cau, rfl, -, -⟩ := hu
  clear hP hQ hbx
  go_enter Tryz.func14, Tryz.ntmps14
  go_wp2_with fail
  refine (unhide HZ _ _).mono ?_
  rintro e w1 ⟨rfl, hb1⟩
  have HB := hide ((unhide HBX _ _).trans (hb1.mono (unhide HBX _ _).size))
  clear hb1 HZ
  go_wp2_with fail
  go_ret
  exact ⟨rfl, unhide HB⟩
set_option maxRecDepth 100000 in
set_option maxHeartbeats 1600000 in
theorem markLogAct_shp (a : Ac) (D : Nat → Prop) (v : Value) (k : Nat) (w : World) (hv : ZShp D w v a.keep.length) (hk : k + a.keep.length ≤ 1099511627776) :
    Calls Tryz.prog 17 #[.agg #[.int .i64 a.kind, .string a.data, .bool a.cuts, .int .i64 a.after, .int .i64 a.moves, v], .int .i64 k] w fun e w' => e = .returned (.int .i64 (k + a.keep.length : Nat)) ∧ Like D w w' := by
  have hlk : ∀ o, Like D w (w.alloc o) := fun o => Like.of_below ((Below.refl _ _).alloc (Nat.le_refl _) o)
  have HZ := hide (fun o => markIntS_shp D v a.keep.length k (w.alloc o) (hv.like (hlk o)) hk)
  have HLK := hide hlk
  obtain ⟨av, cap, rfl, hlen, -⟩ := hv
  clear hlk
  go_enter Tryz.func17, Tryz.ntmps17
  go_wp2_with fail
  refine (unhide HZ _).mono ?_
  rintro e w1 ⟨rfl, hl1⟩
  have HB := hide ((unhide HLK _).trans hl1)
  clear hl1 HZ
  go_wp2_with fail
  go_ret
  exact ⟨rfl, unhide HB⟩
end Go.Proofs.YtgdiankfnemjjaaGreat
