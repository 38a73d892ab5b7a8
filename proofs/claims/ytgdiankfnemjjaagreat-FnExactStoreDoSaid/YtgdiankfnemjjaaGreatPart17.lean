/- The walks of the law's szDiskFile, szDiskFileS, szDiskMove, szDiskMoveS, szDisk: what they answer, and that they turn nothing that was there. No conditions. -/
import Derived.Test.YtgdiankfnemjjaaGreatPart00
namespace Go.Proofs.YtgdiankfnemjjaaGreat
open Go Go.RowKit

set_option maxHeartbeats 400000 in
theorem szDiskFile_any (f : Df) (hf : f.okM) (left : Int) (w : World) (h0 : 0 ≤ left) (h1 : left ≤ 1048576) :
    Calls Tryz.prog 49 #[.agg #[.string f.name, .string f.data, .int .i64 f.kept], .int .i64 left] w fun e w' => ∃ r : Int, e = .returned (.int .i64 r) ∧ (r = -1 ∨ (0 ≤ r ∧ r + (f.name.size + f.data.size : Nat) = left)) ∧ Below w.heap.size w w' := by
  obtain ⟨hn, hd, -⟩ := hf
  have hbx : ∀ o, Below w.heap.size w (w.alloc o) := fun o => (Below.refl _ _).alloc (Nat.le_refl _) o
  by_cases h2 : left - f.name.size < 0
  · go_enter Tryz.func49, Tryz.ntmps49
    go_wp2_with fail
    go_ret
    exact ⟨_, rfl, Or.inl rfl, hbx _⟩
  · by_cases h3 : left - f.name.size - f.data.size < 0
    · go_enter Tryz.func49, Tryz.ntmps49
      go_wp2_with fail
      go_ret
      exact ⟨_, rfl, Or.inl rfl, hbx _⟩
    · go_enter Tryz.func49, Tryz.ntmps49
      go_wp2_with fail
      go_ret
      exact ⟨_, rfl, Or.inr ⟨by omega, by omega⟩, hbx _⟩

set_option maxHeartbeats 400000 in
theorem szDiskMove_any (m : Dm) (hm : m.okM) (left : Int) (w : World) (h0 : 0 ≤ left) (h1 : left ≤ 1048576) :
    Calls Tryz.prog 50 #[.agg #[.bool m.gone, .string m.name], .int .i64 left] w fun e w' => ∃ r : Int, e = .returned (.int .i64 r) ∧ (r = -1 ∨ (0 ≤ r ∧ r + m.name.size = left)) ∧ Below w.heap.size w w' := by
  have hn : m.name.size ≤ 9223372036854775807 := hm
  have hbx : ∀ o, Below w.heap.size w (w.alloc o) := fun o => (Below.refl _ _).alloc (Nat.le_refl _) o
  by_cases h2 : left - m.name.size < 0
  · go_enter Tryz.func50, Tryz.ntmps50
    go_wp2_with fail
    go_ret
    exact ⟨_, rfl, Or.inl rfl, hbx _⟩
  · go_enter Tryz.func50, Tryz.ntmps50
    go_wp2_with fail
    go_ret
    exact ⟨_, rfl, Or.inr ⟨by omega, by omega⟩, hbx _⟩

set_option maxHeartbeats 800000 in
theorem szDiskFileS_any (v : Value) (fs : List Df) (left : Int) (w : World) {P : Nat → Prop} (hP : ∀ b, P b → b < w.heap.size) (hv : FsAt P w v fs) (h0 : 0 ≤ left) (h1 : left ≤ 1048576) :
    Calls Tryz.prog 19 #[v, .int .i64 left] w fun e w' => ∃ r : Int, e = .returned (.int .i64 r) ∧ (r = -1 ∨ (0 ≤ r ∧ r + wF fs = left)) ∧ Below w.heap.size w w' := by
  obtain ⟨a, cap, rfl, hlen, hc⟩ := hv.open
  have HC := hide hc; have HP := hide hP; clear hc hP hv
  by_cases hneg : left - fs.length < 0
  · go_enter Tryz.func19, Tryz.ntmps19
    go_wp2_with fail
    go_ret
    exact ⟨_, rfl, Or.inl rfl, Below.refl _ _⟩
  · go_enter Tryz.func19, Tryz.ntmps19
    go_wp2_with fail
    go_loopw [1, 5] (fun l i wr => ∃ (k : Nat) (q : Int), k ≤ fs.length ∧ i = .int .i64 k ∧ l = .int .i64 q ∧ 0 ≤ q ∧ q ≤ 1048576 ∧ Hid (q + fs.length + wF (fs.take k) = left + k) ∧ Below w.heap.size w wr) (fun _ i _ => fs.length - (intOf i).toNat)
    case atStart => exact ⟨0, _, Nat.zero_le _, rfl, rfl, by omega, by omega, by simp [Hid, wF], Below.refl _ _⟩
    case round =>
      obtain ⟨k, q, hk, rfl, rfl, hq0, hq1, HQ, hb⟩ := hrel
      by_cases hlt : k < fs.length
      · obtain ⟨b, o, rfl, hpb, hcell, hok⟩ := unhide HC k hlt
        have hcell' := hcell.carry (hb.block b (unhide HP b hpb))
        obtain ⟨e0, e1, e2⟩ := hcell'
        simp only at e0 e1 e2
        have HT := hide (wF_take fs k hlt)
        have HS := hide (szDiskFile_any fs[k] hok q wr hq0 hq1)
        clear hcell hpb hok
        generalize fs[k] = f at *
        go_wp2_with fail
        refine (unhide HS).mono ?_
        rintro e w' ⟨r, rfl, hr, hb'⟩
        have hb2 := hb.trans (hb'.mono hb.size)
        clear hb' HS
        rcases hr with rfl | ⟨hr0, hr1⟩
        · go_wp2_with fail
          go_ret
          exact ⟨_, rfl, Or.inl rfl, hb2⟩
        · have HR1 := hide hr1; clear hr1
          have hr2 : r ≤ 1048576 := by have := unhide HR1; omega
          go_wp2_with fail
          go_roundw
          case rel => exact ⟨k + 1, _, by omega, by go_num, rfl, by omega, by omega, by have := HQ.out; have := unhide HT; have := unhide HR1; show _ = _; omega, hb2⟩
          case measure => simp [intOf]; omega
      · go_wp2_with fail
        go_ret
        refine ⟨_, rfl, Or.inr ⟨hq0, ?_⟩, hb⟩
        have := HQ.out
        rw [List.take_of_length_le (by omega)] at this
        omega

set_option maxHeartbeats 800000 in
theorem szDiskMoveS_any (v : Value) (ms : List Dm) (left : Int) (w : World) {P : Nat → Prop} (hP : ∀ b, P b → b < w.heap.size) (hv : MsAt P w v ms) (h0 : 0 ≤ left) (h1 : left ≤ 1048576) :
    Calls Tryz.prog 21 #[v, .int .i64 left] w fun e w' => ∃ r : Int, e = .returned (.int .i64 r) ∧ (r = -1 ∨ (0 ≤ r ∧ r + wM ms = left)) ∧ Below w.heap.size w w' := by
  obtain ⟨a, cap, rfl, hlen, hc⟩ := hv.open
  have HC := hide hc; have HP := hide hP; clear hc hP hv
  by_cases hneg : left - ms.length < 0
  · go_enter Tryz.func21, Tryz.ntmps21
    go_wp2_with fail
    go_ret
    exact ⟨_, rfl, Or.inl rfl, Below.refl _ _⟩
  · go_enter Tryz.func21, Tryz.ntmps21
    go_wp2_with fail
    go_loopw [1, 5] (fun l i wr => ∃ (k : Nat) (q : Int), k ≤ ms.length ∧ i = .int .i64 k ∧ l = .int .i64 q ∧ 0 ≤ q ∧ q ≤ 1048576 ∧ Hid (q + ms.length + wM (ms.take k) = left + k) ∧ Below w.heap.size w wr) (fun _ i _ => ms.length - (intOf i).toNat)
    case atStart => exact ⟨0, _, Nat.zero_le _, rfl, rfl, by omega, by omega, by simp [Hid, wM], Below.refl _ _⟩
    case round =>
      obtain ⟨k, q, hk, rfl, rfl, hq0, hq1, HQ, hb⟩ := hrel
      by_cases hlt : k < ms.length
      · obtain ⟨b, o, rfl, hpb, hc0, hc1, hok⟩ := unhide HC k hlt
        have e0 : wr.cell? ⟨b, o + k * 2, none⟩ = some (.bool ms[k].gone) := by rw [hb.cell (unhide HP b hpb)]; exact hc0
        have e1 : wr.cell? ⟨b, o + k * 2 + 1, none⟩ = some (.string ms[k].name) := by rw [hb.cell (unhide HP b hpb)]; exact hc1
        have HT := hide (wM_take ms k hlt)
        have HS := hide (szDiskMove_any ms[k] hok q wr hq0 hq1)
        clear hc0 hc1 hpb hok
        generalize ms[k] = f at *
        go_wp2_with fail
        refine (unhide HS).mono ?_
        rintro e w' ⟨r, rfl, hr, hb'⟩
        have hb2 := hb.trans (hb'.mono hb.size)
        clear hb' HS
        rcases hr with rfl | ⟨hr0, hr1⟩
        · go_wp2_with fail
          go_ret
          exact ⟨_, rfl, Or.inl rfl, hb2⟩
        · have HR1 := hide hr1; clear hr1
          have hr2 : r ≤ 1048576 := by have := unhide HR1; omega
          go_wp2_with fail
          go_roundw
          case rel => exact ⟨k + 1, _, by omega, by go_num, rfl, by omega, by omega, by have := HQ.out; have := unhide HT; have := unhide HR1; show _ = _; omega, hb2⟩
          case measure => simp [intOf]; omega
      · go_wp2_with fail
        go_ret
        refine ⟨_, rfl, Or.inr ⟨hq0, ?_⟩, hb⟩
        have := HQ.out
        rw [List.take_of_length_le (by omega)] at this
        omega

set_option maxHeartbeats 800000 in
theorem szDisk_any (d : Dk) (P : Nat → Prop) (c : C3) (left : Int) (w : World) (hP : ∀ b, P b → b < w.heap.size) (hd : DkAt P w d c) (h0 : 0 ≤ left) (h1 : left ≤ 1048576) :
    Calls Tryz.prog 4 #[.agg #[c.c0, c.c1, c.c2], .int .i64 left] w fun e w' => ∃ r : Int, e = .returned (.int .i64 r) ∧ (r = -1 ∨ (0 ≤ r ∧ r + wDk d = left)) ∧ Below w.heap.size w w' := by
  obtain ⟨c0, c1, c2⟩ := c
  obtain ⟨a0, p0, g0, -, -⟩ := hd.fs.open
  obtain ⟨a1, p1, g1, -, -⟩ := hd.ns
  obtain ⟨a2, p2, g2, -, -⟩ := hd.ms.open
  simp only at g0 g1 g2
  subst g0 g1 g2
  have hbx : ∀ o, Below w.heap.size w (w.alloc o) := fun o => (Below.refl _ _).alloc (Nat.le_refl _) o
  have hcar : ∀ W, Below w.heap.size w W → DkAt P W d ⟨.slice a0 d.files.length p0, .slice a1 d.names.length p1, .slice a2 d.moves.length p2⟩ := fun W hW => hd.carry (fun b hb => hW.block b (hP b hb)) (fun _ h => h)
  have hwd : wDk d = wF d.files + wS d.names + wM d.moves := rfl
  have hrow0 := row3_alloc w (.slice a0 d.files.length p0) (.slice a1 d.names.length p1) (.slice a2 d.moves.length p2) 26
  have HROW := hide hrow0; have HC := hide hcar; have HP := hide hP; have HBX := hide hbx; have HWD := hide hwd
  clear hd hcar hP hbx hwd hrow0
  generalize d.files.length = nf at *
  generalize d.names.length = nn at *
  generalize d.moves.length = nm at *
  go_enter Tryz.func4, Tryz.ntmps4
  go_wp2_with fail
  refine (szDiskFileS_any _ d.files _ _ (fun b hb => Nat.lt_of_lt_of_le (unhide HP b hb) (by simp)) (unhide HC _ (unhide HBX _)).fs (by omega) (by omega)).mono ?_
  rintro e w1 ⟨r, rfl, hr, hb1⟩
  have HB1 := hide ((unhide HBX (.cells #[.slice a0 nf p0, .slice a1 nn p1, .slice a2 nm p2] 26)).trans (hb1.mono (by simp)))
  have hrow1 := (unhide HROW).of_block (hb1.block _ (by simp))
  have k1 := hrow1.cell (i := 1) (by omega); have k2 := hrow1.cell (i := 2) (by omega)
  simp only [row3] at k1 k2
  have HR1 := hide hrow1
  clear hb1 hrow1
  rcases hr with rfl | ⟨hr0, hr1⟩
  · go_wp2_with fail
    go_ret
    exact ⟨_, rfl, Or.inl rfl, unhide HB1⟩
  · have HQ1 := hide hr1; clear hr1
    have hq1 : r ≤ 1048576 := by have := unhide HQ1; omega
    go_wp2_with fail
    refine (szStringS_any _ d.names _ _ (unhide HC _ (unhide HB1)).ns hr0 hq1).mono ?_
    rintro e w' ⟨r2, rfl, hr2, rfl⟩
    rcases hr2 with rfl | ⟨hr20, hr21⟩
    · go_wp2_with fail
      go_ret
      exact ⟨_, rfl, Or.inl rfl, unhide HB1⟩
    · have HQ2 := hide hr21; clear hr21
      have hq2 : r2 ≤ 1048576 := by have := unhide HQ2; omega
      go_wp2_with fail
      refine (szDiskMoveS_any _ d.moves _ _ (fun b hb => Nat.lt_of_lt_of_le (unhide HP b hb) (unhide HB1).size) (unhide HC _ (unhide HB1)).ms hr20 hq2).mono ?_
      rintro e w3 ⟨r3, rfl, hr3, hb3⟩
      have HB3 := hide ((unhide HB1).trans (hb3.mono (unhide HB1).size))
      clear hb3
      rcases hr3 with rfl | ⟨hr30, hr31⟩
      · go_wp2_with fail
        go_ret
        exact ⟨_, rfl, Or.inl rfl, unhide HB3⟩
      · have HQ3 := hide hr31; clear hr31
        go_wp2_with fail
        go_ret
        exact ⟨_, rfl, Or.inr ⟨hr30, by have := unhide HQ1; have := unhide HQ2; have := unhide HQ3; have := unhide HWD; omega⟩, unhide HB3⟩
end Go.Proofs.YtgdiankfnemjjaaGreat

/- The walks of toKind, toKindS: they make a new copy of a schema, and turn nothing that was there. No conditions but the schema's weight, at most 2^20. -/

namespace Go.Proofs.YtgdiankfnemjjaaGreat
open Go Go.RowKit

/-- The three zero cells of a schema. -/
def z3 : Array Value := #[.int .i64 0, .slice none 0 0, .slice none 0 0]

end Go.Proofs.YtgdiankfnemjjaaGreat

/- The walk of toStringS once more: the copy lies in new blocks of which nothing is frozen. No conditions but the number of strings, at most 2^20. -/

namespace Go.Proofs.YtgdiankfnemjjaaGreat
open Go Go.RowKit

/-- In blocks that are new between two worlds, and of which nothing is frozen. -/
def NewF (w w' : World) : Nat → Prop := fun b => New w w' b ∧ FreeB w' b

set_option maxHeartbeats 400000 in
theorem toStringS_free (v : Value) (ss : List ByteArray) (w : World) {P : Nat → Prop} (hP : ∀ b, P b → b < w.heap.size) (hv : StrsAt P w v ss) (h1 : ss.length ≤ 1048576) :
    Calls Tryz.prog 29 #[v] w fun e w' => ∃ v', e = .returned v' ∧ (∃ a, v' = .slice a ss.length ss.length) ∧ StrsAt (NewF w w') w' v' ss ∧ Below w.heap.size w w' := by
  obtain ⟨a, cap, rfl, hlen, hc⟩ := hv
  have HC := hide hc; have HP := hide hP; clear hc hP
  have hmk := run_make_row' (P := Tryz.prog) 23 9 (.string ByteArray.empty) 16 Tryz.underlying23 infoString rfl .i64 .i64 ss.length (by omega) (by omega)
  go_enter Tryz.func29, Tryz.ntmps29
  go_wp2_with fail
  clear hmk
  go_loopw [4] (fun i wr => ∃ (k : Nat), k ≤ ss.length ∧ i = .int .i64 k ∧ Hid (wr.rowIs w.heap.size 9 ss.length (fun j => .string (if j < k then (ss[j]?).getD ByteArray.empty else ByteArray.empty))) ∧ Below w.heap.size w wr) (fun i _ => ss.length - (intOf i).toNat)
  case atStart => exact ⟨0, Nat.zero_le _, rfl, hide (by simpa using World.rowIs_made w (.string ByteArray.empty) ss.length _), (Below.refl _ _).alloc (Nat.le_refl _) _⟩
  case round =>
    obtain ⟨k, hk, rfl, HR, hb⟩ := hrel
    by_cases hlt : k < ss.length
    · obtain ⟨b, o, rfl, hpb, hcell, hsz⟩ := unhide HC k hlt
      have hcell' : wr.cell? ⟨b, o + k, none⟩ = some (.string ss[k]) := by rw [hb.cell (unhide HP b hpb)]; exact hcell
      have hf := HR.out.frozen k
      have hcc := HR.out.cell hlt
      simp only [Nat.lt_irrefl, if_false] at hcc
      clear hcell hpb
      go_wp2_with fail
      go_roundw
      case rel =>
        refine ⟨k + 1, by omega, by go_num, ?_, hb.setCell (Nat.le_refl _) _⟩
        refine (HR.out.set k _).congr fun i hi => ?_
        by_cases e : i = k
        · subst e; simp [hi]
        · simp only [if_neg e]
          by_cases e2 : i < k
          · rw [if_pos e2, if_pos (by omega)]
          · rw [if_neg e2, if_neg (by omega)]
      case measure => simp [intOf]; omega
    · go_wp2_with fail
      go_ret
      have hrow := HR.out
      refine ⟨_, rfl, ⟨_, rfl⟩, ⟨_, _, rfl, by omega, fun i hi => ⟨w.heap.size, 0, rfl, ⟨⟨Nat.le_refl _, hrow.lt⟩, fun o => hrow.frozen o⟩, ?_, ?_⟩⟩, hb⟩
      · rw [Nat.zero_add, hrow.cell hi, if_pos (by omega)]; simp [hi]
      · obtain ⟨_, _, _, _, _, h⟩ := unhide HC i hi; exact h

end Go.Proofs.YtgdiankfnemjjaaGreat

/- The walks of the law's toDiskFile, toDiskFileS, toDiskMove, toDiskMoveS, toDisk: they make a new copy of a disk, and turn nothing that was there. No conditions but the disk's weight, at most 2^20. -/

namespace Go.Proofs.YtgdiankfnemjjaaGreat
open Go Go.RowKit

def zF : Array Value := #[.string ByteArray.empty, .string ByteArray.empty, .int .i64 0]
def zM : Array Value := #[.bool false, .string ByteArray.empty]
theorem infoFile : (Tryz.prog.info? 84).map (fun i => (i.zero, i.size, i.bytes)) = some (some (.agg zF), 3, 40) := by kernel_rfl
theorem infoMove : (Tryz.prog.info? 88).map (fun i => (i.zero, i.size, i.bytes)) = some (some (.agg zM), 2, 24) := by kernel_rfl

theorem run_make_file (n : Nat) (h : n ≤ 1048576) (w : World) :
    (Instr.makeSlice 34 (.int .i64 (n : Int)) (.int .i64 (n : Int))).run Tryz.prog w = .ok (.slice (some ⟨w.heap.size, 0, none⟩) n n) (w.alloc (.cells (madeCells zF (n * 3)) 84)) := by
  obtain ⟨i, hi, he⟩ : ∃ i, Tryz.prog.info? 84 = some i ∧ (i.zero, i.size, i.bytes) = (some (.agg zF), 3, 40) := by
    have := infoFile
    cases h : Tryz.prog.info? 84 with
    | none => rw [h] at this; simp at this
    | some i => rw [h] at this; exact ⟨i, rfl, by simpa using this⟩
  simp only [Prod.mk.injEq] at he
  obtain ⟨e1, e2, e3⟩ := he
  have := run_make (P := Tryz.prog) w 34 84 i (.agg zF) Tryz.underlying34 hi e1 .i64 .i64 n n (by omega) (by omega) (by rw [e3]; omega) (by omega)
  rw [this, e2]
  simp [Value.cells]
theorem run_make_move (n : Nat) (h : n ≤ 1048576) (w : World) :
    (Instr.makeSlice 35 (.int .i64 (n : Int)) (.int .i64 (n : Int))).run Tryz.prog w = .ok (.slice (some ⟨w.heap.size, 0, none⟩) n n) (w.alloc (.cells (madeCells zM (n * 2)) 88)) := by
  obtain ⟨i, hi, he⟩ : ∃ i, Tryz.prog.info? 88 = some i ∧ (i.zero, i.size, i.bytes) = (some (.agg zM), 2, 24) := by
    have := infoMove
    cases h : Tryz.prog.info? 88 with
    | none => rw [h] at this; simp at this
    | some i => rw [h] at this; exact ⟨i, rfl, by simpa using this⟩
  simp only [Prod.mk.injEq] at he
  obtain ⟨e1, e2, e3⟩ := he
  have := run_make (P := Tryz.prog) w 35 88 i (.agg zM) Tryz.underlying35 hi e1 .i64 .i64 n n (by omega) (by omega) (by rw [e3]; omega) (by omega)
  rw [this, e2]
  simp [Value.cells]

theorem toDiskFile_any (f : Df) (w : World) :
    Calls Tryz.prog 59 #[.agg #[.string f.name, .string f.data, .int .i64 f.kept]] w fun e w' => e = .returned (.agg #[.string f.name, .string f.data, .int .i64 f.kept]) ∧ Below w.heap.size w w' := by
  have hb0 : ∀ o o2 o3, Below w.heap.size w (((w.alloc o).alloc o2).alloc o3) := fun o o2 o3 => (((Below.refl _ _).alloc (Nat.le_refl _) o).alloc (by simp) o2).alloc (by simp; omega) o3
  go_enter Tryz.func59, Tryz.ntmps59
  go_wp2_with fail
  refine bodyPost_ret (v := .agg #[.string f.name, .string f.data, .int .i64 f.kept]) (by simp [results, Tryz.results59, go_sem]) rfl ⟨rfl, hb0 _ _ _⟩
theorem toDiskMove_any (m : Dm) (w : World) :
    Calls Tryz.prog 60 #[.agg #[.bool m.gone, .string m.name]] w fun e w' => e = .returned (.agg #[.bool m.gone, .string m.name]) ∧ Below w.heap.size w w' := by
  have hb0 : ∀ o o2 o3, Below w.heap.size w (((w.alloc o).alloc o2).alloc o3) := fun o o2 o3 => (((Below.refl _ _).alloc (Nat.le_refl _) o).alloc (by simp) o2).alloc (by simp; omega) o3
  go_enter Tryz.func60, Tryz.ntmps60
  go_wp2_with fail
  refine bodyPost_ret (v := .agg #[.bool m.gone, .string m.name]) (by simp [results, Tryz.results60, go_sem]) rfl ⟨rfl, hb0 _ _ _⟩

/-- What a loop has laid after k rounds: a row whose first k elements are as told. -/
def FLaid (w wr : World) (t n : Nat) (rs : List (List Value)) (k : Nat) : Prop :=
  ∃ f, wr.rowIs w.heap.size t (rs.length * n) f ∧ ∀ i, i < k → (h : i < rs.length) → ∀ j, j < n → f (i * n + j) = rs[i].getD j undef
theorem FLaid.start (w : World) (t n : Nat) (z : Array Value) (rs : List (List Value)) : FLaid w (w.alloc (.cells (madeCells z (rs.length * n)) t)) t n rs 0 := by
  have hrow := World.rowIs_alloc w (madeCells z (rs.length * n)) t (fun i => (madeCells z (rs.length * n))[i]?.getD undef) (fun i hi => by simp [hi])
  rw [size_madeCells] at hrow
  exact ⟨_, hrow, fun i hi => by omega⟩
theorem FLaid.step3 {w wr w' : World} {t : Nat} {rs : List (List Value)} {k : Nat} (hlt : k < rs.length) (hL : FLaid w wr t 3 rs k) (hb' : Below wr.heap.size wr w') (c0 c1 c2 : Value) (hr : rs[k] = [c0, c1, c2]) :
    FLaid w (((w'.setCell ⟨w.heap.size, k * 3, none⟩ c0).setCell ⟨w.heap.size, k * 3 + 1, none⟩ c1).setCell ⟨w.heap.size, k * 3 + 2, none⟩ c2) t 3 rs (k + 1) := by
  obtain ⟨f, hrow, hf⟩ := hL
  have hrow' := hrow.of_block (hb'.block _ hrow.lt)
  refine ⟨_, ((hrow'.set (k * 3) c0).set (k * 3 + 1) c1).set (k * 3 + 2) c2, fun i hi hil j hj => ?_⟩
  by_cases e : i = k
  · subst e
    rw [hr]
    rcases (show j = 0 ∨ j = 1 ∨ j = 2 by omega) with rfl | rfl | rfl <;> simp
  · rw [if_neg (by omega), if_neg (by omega), if_neg (by omega)]
    exact hf i (by omega) hil j hj
theorem FLaid.step2 {w wr w' : World} {t : Nat} {rs : List (List Value)} {k : Nat} (hlt : k < rs.length) (hL : FLaid w wr t 2 rs k) (hb' : Below wr.heap.size wr w') (c0 c1 : Value) (hr : rs[k] = [c0, c1]) :
    FLaid w ((w'.setCell ⟨w.heap.size, k * 2, none⟩ c0).setCell ⟨w.heap.size, k * 2 + 1, none⟩ c1) t 2 rs (k + 1) := by
  obtain ⟨f, hrow, hf⟩ := hL
  have hrow' := hrow.of_block (hb'.block _ hrow.lt)
  refine ⟨_, (hrow'.set (k * 2) c0).set (k * 2 + 1) c1, fun i hi hil j hj => ?_⟩
  by_cases e : i = k
  · subst e
    rw [hr]
    rcases (show j = 0 ∨ j = 1 by omega) with rfl | rfl <;> simp
  · rw [if_neg (by omega), if_neg (by omega)]
    exact hf i (by omega) hil j hj
theorem FLaid.done {w wr : World} {t n : Nat} {rs : List (List Value)} (hL : FLaid w wr t n rs rs.length) (hl : rs.length ≤ 1048576) : FlatAt (NewF w wr) wr (.slice (some ⟨w.heap.size, 0, none⟩) rs.length rs.length) n rs := by
  obtain ⟨f, hrow, hf⟩ := hL
  exact FlatAt.of_row hrow rfl (by omega) ⟨⟨Nat.le_refl _, hrow.lt⟩, hrow.frozen⟩ (fun i hi => hf i hi hi)

set_option maxHeartbeats 800000 in
theorem toDiskFileS_any (v : Value) (fs : List Df) (w : World) {P : Nat → Prop} (hP : ∀ b, P b → b < w.heap.size) (hv : FsAt P w v fs) (h1 : fs.length ≤ 1048576) :
    Calls Tryz.prog 28 #[v] w fun e w' => ∃ a, e = .returned (.slice a fs.length fs.length) ∧ FsAt (NewF w w') w' (.slice a fs.length fs.length) fs ∧ Below w.heap.size w w' := by
  obtain ⟨a, cap, rfl, hlen, hc⟩ := hv.open
  have HC := hide hc; have HP := hide hP; have HOK := hide hv.2; clear hc hP hv
  have hmk := run_make_file fs.length h1
  go_enter Tryz.func28, Tryz.ntmps28
  go_wp2_with fail
  clear hmk
  go_loopw [4] (fun i wr => ∃ (k : Nat), k ≤ fs.length ∧ i = .int .i64 k ∧ Hid (FLaid w wr 84 3 (fs.map Df.cs) k) ∧ Below w.heap.size w wr) (fun i _ => fs.length - (intOf i).toNat)
  case atStart =>
    have h0 := FLaid.start w 84 3 zF (fs.map Df.cs)
    rw [List.length_map] at h0
    exact ⟨0, Nat.zero_le _, rfl, hide h0, (Below.refl _ _).alloc (Nat.le_refl _) _⟩
  case round =>
    obtain ⟨k, hk, rfl, HL, hb⟩ := hrel
    by_cases hlt : k < fs.length
    · obtain ⟨b, o, rfl, hpb, hcell, hok⟩ := unhide HC k hlt
      have hcell' := hcell.carry (hb.block b (unhide HP b hpb))
      obtain ⟨e0, e1, e2⟩ := hcell'
      simp only at e0 e1 e2
      have HS := hide (toDiskFile_any fs[k] wr)
      have HE := hide (show (fs.map Df.cs)[k]'(by rw [List.length_map]; exact hlt) = [.string fs[k].name, .string fs[k].data, .int .i64 fs[k].kept] by rw [List.getElem_map]; rfl)
      clear hcell hpb hok
      generalize fs[k] = f at *
      go_wp2_with fail
      refine (unhide HS).mono ?_
      rintro e w' ⟨rfl, hb'⟩
      have hlk : k < (fs.map Df.cs).length := by rw [List.length_map]; exact hlt
      have hrow := HL.out
      obtain ⟨ff, hrow, -⟩ := hrow
      have hrow' := hrow.of_block (hb'.block _ hrow.lt)
      rw [List.length_map] at hrow'
      have z0 := hrow'.frozen (k * 3); have z1 := hrow'.frozen (k * 3 + 1); have z2 := hrow'.frozen (k * 3 + 2)
      have y0 := hrow'.cell (i := k * 3) (by omega); have y1 := hrow'.cell (i := k * 3 + 1) (by omega); have y2 := hrow'.cell (i := k * 3 + 2) (by omega)
      have HB' := hide hb'
      clear hrow hrow' hb' HS e0 e1 e2
      go_wp2_with fail
      go_roundw
      case rel =>
        have hb3 := hb.trans (HB'.out.mono hb.size)
        exact ⟨k + 1, by omega, by go_num, FLaid.step3 hlk HL.out HB'.out _ _ _ (unhide HE), ((hb3.setCell (Nat.le_refl _) _).setCell (Nat.le_refl _) _).setCell (Nat.le_refl _) _⟩
      case measure => simp [intOf]; omega
    · go_wp2_with fail
      go_ret
      obtain rfl : k = fs.length := by omega
      have hd := HL.out
      have hd2 : FlatAt (NewF w wr) wr (.slice (some ⟨w.heap.size, 0, none⟩) (fs.map Df.cs).length (fs.map Df.cs).length) 3 (fs.map Df.cs) := FLaid.done (by rw [List.length_map]; exact hd) (by rw [List.length_map]; exact h1)
      rw [List.length_map] at hd2
      exact ⟨_, rfl, ⟨hd2, unhide HOK⟩, hb⟩

set_option maxHeartbeats 800000 in
theorem toDiskMoveS_any (v : Value) (fs : List Dm) (w : World) {P : Nat → Prop} (hP : ∀ b, P b → b < w.heap.size) (hv : MsAt P w v fs) (h1 : fs.length ≤ 1048576) :
    Calls Tryz.prog 30 #[v] w fun e w' => ∃ a, e = .returned (.slice a fs.length fs.length) ∧ MsAt (NewF w w') w' (.slice a fs.length fs.length) fs ∧ Below w.heap.size w w' := by
  obtain ⟨a, cap, rfl, hlen, hc⟩ := hv.open
  have HC := hide hc; have HP := hide hP; have HOK := hide hv.2; clear hc hP hv
  have hmk := run_make_move fs.length h1
  go_enter Tryz.func30, Tryz.ntmps30
  go_wp2_with fail
  clear hmk
  go_loopw [4] (fun i wr => ∃ (k : Nat), k ≤ fs.length ∧ i = .int .i64 k ∧ Hid (FLaid w wr 88 2 (fs.map Dm.cs) k) ∧ Below w.heap.size w wr) (fun i _ => fs.length - (intOf i).toNat)
  case atStart =>
    have h0 := FLaid.start w 88 2 zM (fs.map Dm.cs)
    rw [List.length_map] at h0
    exact ⟨0, Nat.zero_le _, rfl, hide h0, (Below.refl _ _).alloc (Nat.le_refl _) _⟩
  case round =>
    obtain ⟨k, hk, rfl, HL, hb⟩ := hrel
    by_cases hlt : k < fs.length
    · obtain ⟨b, o, rfl, hpb, hc0, hc1, hok⟩ := unhide HC k hlt
      have e0 : wr.cell? ⟨b, o + k * 2, none⟩ = some (.bool fs[k].gone) := by rw [hb.cell (unhide HP b hpb)]; exact hc0
      have e1 : wr.cell? ⟨b, o + k * 2 + 1, none⟩ = some (.string fs[k].name) := by rw [hb.cell (unhide HP b hpb)]; exact hc1
      have HS := hide (toDiskMove_any fs[k] wr)
      have HE := hide (show (fs.map Dm.cs)[k]'(by rw [List.length_map]; exact hlt) = [.bool fs[k].gone, .string fs[k].name] by rw [List.getElem_map]; rfl)
      clear hc0 hc1 hpb hok
      generalize fs[k] = f at *
      go_wp2_with fail
      refine (unhide HS).mono ?_
      rintro e w' ⟨rfl, hb'⟩
      have hlk : k < (fs.map Dm.cs).length := by rw [List.length_map]; exact hlt
      have hrow := HL.out
      obtain ⟨ff, hrow, -⟩ := hrow
      have hrow' := hrow.of_block (hb'.block _ hrow.lt)
      rw [List.length_map] at hrow'
      have z0 := hrow'.frozen (k * 2); have z1 := hrow'.frozen (k * 2 + 1)
      have y0 := hrow'.cell (i := k * 2) (by omega); have y1 := hrow'.cell (i := k * 2 + 1) (by omega)
      have HB' := hide hb'
      clear hrow hrow' hb' HS e0 e1
      go_wp2_with fail
      go_roundw
      case rel =>
        have hb3 := hb.trans (HB'.out.mono hb.size)
        exact ⟨k + 1, by omega, by go_num, FLaid.step2 hlk HL.out HB'.out _ _ (unhide HE), (hb3.setCell (Nat.le_refl _) _).setCell (Nat.le_refl _) _⟩
      case measure => simp [intOf]; omega
    · go_wp2_with fail
      go_ret
      obtain rfl : k = fs.length := by omega
      have hd := HL.out
      have hd2 : FlatAt (NewF w wr) wr (.slice (some ⟨w.heap.size, 0, none⟩) (fs.map Dm.cs).length (fs.map Dm.cs).length) 2 (fs.map Dm.cs) := FLaid.done (by rw [List.length_map]; exact hd) (by rw [List.length_map]; exact h1)
      rw [List.length_map] at hd2
      exact ⟨_, rfl, ⟨hd2, unhide HOK⟩, hb⟩

/-- The boxes of toDisk: its argument, its answer, what it makes. -/
structure TD (w W : World) (va vb vc x0 x1 x2 : Value) : Prop where
  below : Below w.heap.size w W
  ba : W.rowIs w.heap.size 26 3 (row3 va vb vc)
  br : W.rowIs (w.heap.size + 1) 37 3 (row3 (.slice none 0 0) (.slice none 0 0) (.slice none 0 0))
  bo : W.rowIs (w.heap.size + 2) 37 3 (row3 x0 x1 x2)
theorem TD.on {w W W' : World} {va vb vc x0 x1 x2 : Value} (h : TD w W va vb vc x0 x1 x2) (hb : Below W.heap.size W W') : TD w W' va vb vc x0 x1 x2 :=
  ⟨h.below.trans (hb.mono h.below.size), h.ba.of_block (hb.block _ h.ba.lt), h.br.of_block (hb.block _ h.br.lt), h.bo.of_block (hb.block _ h.bo.lt)⟩
theorem drow_set0 {W : World} {g t : Nat} {x0 x1 x2 : Value} (h : W.rowIs g t 3 (row3 x0 x1 x2)) (u : Value) : (W.setCell ⟨g, 0, none⟩ u).rowIs g t 3 (row3 u x1 x2) :=
  (World.rowIs.set h 0 u).congr fun i hi => by
    match i, hi with
    | 0, _ => rfl
    | 1, _ => rfl
    | 2, _ => rfl
theorem drow_set1 {W : World} {g t : Nat} {x0 x1 x2 : Value} (h : W.rowIs g t 3 (row3 x0 x1 x2)) (u : Value) : (W.setCell ⟨g, 1, none⟩ u).rowIs g t 3 (row3 x0 u x2) :=
  (World.rowIs.set h 1 u).congr fun i hi => by
    match i, hi with
    | 0, _ => rfl
    | 1, _ => rfl
    | 2, _ => rfl
theorem TD.put0 {w W : World} {va vb vc x0 x1 x2 : Value} (h : TD w W va vb vc x0 x1 x2) (u : Value) : TD w (W.setCell ⟨w.heap.size + 2, 0, none⟩ u) va vb vc u x1 x2 :=
  ⟨h.below.setCell (by simp) _, h.ba.setOther (by simp) _, h.br.setOther (by simp) _, drow_set0 h.bo u⟩
theorem TD.put1 {w W : World} {va vb vc x0 x1 x2 : Value} (h : TD w W va vb vc x0 x1 x2) (u : Value) : TD w (W.setCell ⟨w.heap.size + 2, 1, none⟩ u) va vb vc x0 u x2 :=
  ⟨h.below.setCell (by simp) _, h.ba.setOther (by simp) _, h.br.setOther (by simp) _, drow_set1 h.bo u⟩
theorem TD.start (w : World) (va vb vc : Value) : TD w (((w.alloc (.cells #[va, vb, vc] 26)).alloc (.cells #[.slice none 0 0, .slice none 0 0, .slice none 0 0] 37)).alloc (.cells #[.slice none 0 0, .slice none 0 0, .slice none 0 0] 37)) va vb vc (.slice none 0 0) (.slice none 0 0) (.slice none 0 0) := by
  have hb0 : ∀ o o2 o3, Below w.heap.size w (((w.alloc o).alloc o2).alloc o3) := fun o o2 o3 => (((Below.refl _ _).alloc (Nat.le_refl _) o).alloc (by simp) o2).alloc (by simp; omega) o3
  refine ⟨hb0 _ _ _, ((row3_alloc w _ _ _ _).alloc _).alloc _, ?_, ?_⟩
  · have := (row3_alloc (w.alloc (.cells #[va, vb, vc] 26)) (.slice none 0 0) (.slice none 0 0) (.slice none 0 0) 37).alloc (.cells #[.slice none 0 0, .slice none 0 0, .slice none 0 0] 37)
    rw [World.size_alloc] at this
    exact this
  · have := row3_alloc ((w.alloc (.cells #[va, vb, vc] 26)).alloc (.cells #[.slice none 0 0, .slice none 0 0, .slice none 0 0] 37)) (.slice none 0 0) (.slice none 0 0) (.slice none 0 0) 37
    rw [World.size_alloc, World.size_alloc] at this
    exact this

set_option maxHeartbeats 1600000 in
theorem toDisk_free (d : Dk) (P : Nat → Prop) (c : C3) (w : World) (hP : ∀ b, P b → b < w.heap.size) (hd : DkAt P w d c) (hw : wDk d ≤ 1048576) :
    Calls Tryz.prog 8 #[.agg #[c.c0, c.c1, c.c2]] w fun e w' => ∃ c' : C3, e = .returned (.agg #[c'.c0, c'.c1, c'.c2]) ∧ DkAt (NewF w w') w' d c' ∧ Below w.heap.size w w' := by
  obtain ⟨c0, c1, c2⟩ := c
  obtain ⟨a0, p0, g0, -, -⟩ := hd.fs.open
  obtain ⟨a1, p1, g1, -, -⟩ := hd.ns
  obtain ⟨a2, p2, g2, -, -⟩ := hd.ms.open
  simp only at g0 g1 g2
  subst g0 g1 g2
  have hcar : ∀ W, Below w.heap.size w W → DkAt P W d ⟨.slice a0 d.files.length p0, .slice a1 d.names.length p1, .slice a2 d.moves.length p2⟩ := fun W hW => hd.carry (fun b hb => hW.block b (hP b hb)) (fun _ h => h)
  have hl0 : d.files.length ≤ 1048576 := by have := wF_len d.files; unfold wDk at hw; omega
  have hl1 : d.names.length ≤ 1048576 := by have := wS_len d.names; unfold wDk at hw; omega
  have hl2 : d.moves.length ≤ 1048576 := by have := wM_len d.moves; unfold wDk at hw; omega
  have HC := hide hcar
  have HP := hide (fun W (hW : Below w.heap.size w W) b (hb : P b) => Nat.lt_of_lt_of_le (hP b hb) hW.size)
  have HTD := hide (TD.start w (.slice a0 d.files.length p0) (.slice a1 d.names.length p1) (.slice a2 d.moves.length p2))
  have HF := hide (fun W (hW : Below w.heap.size w W) => toDiskFileS_any _ d.files W (unhide HP W hW) (hcar W hW).fs hl0)
  have HN := hide (fun W (hW : Below w.heap.size w W) => toStringS_free _ d.names W (unhide HP W hW) (hcar W hW).ns hl1)
  have HM := hide (fun W (hW : Below w.heap.size w W) => toDiskMoveS_any _ d.moves W (unhide HP W hW) (hcar W hW).ms hl2)
  clear hd hcar hP hw
  generalize hnf : d.files.length = nf at *
  generalize hnn : d.names.length = nn at *
  generalize hnm : d.moves.length = nm at *
  clear hnf hnn hnm
  go_enter Tryz.func8, Tryz.ntmps8
  go_wp2_with fail
  refine (unhide HF _ (unhide HTD).below).mono ?_
  rintro e w1 ⟨b0, rfl, hf1, hb1⟩
  have htd1 := (unhide HTD).on hb1
  have k1 := htd1.ba.cell (i := 1) (by omega); have k2 := htd1.ba.cell (i := 2) (by omega); have o0 := htd1.bo.cell (i := 0) (by omega); have of1 := htd1.bo.frozen
  simp only [row3] at k1 k2 o0
  have hf1' : FsAt (fun x => (w.heap.size + 3 ≤ x ∧ x < w1.heap.size) ∧ FreeB w1 x) w1 (.slice b0 nf nf) d.files := hf1.carry (fun _ _ => rfl) (fun x hx => ⟨⟨by have := hx.1.1; simpa using this, hx.1.2⟩, hx.2⟩)
  have HF1 := hide hf1'; have HTD1 := hide (htd1.put0 (.slice b0 nf nf))
  have hs1 : w.heap.size + 3 ≤ w1.heap.size := by have := htd1.bo.lt; omega
  clear hf1 hf1' hb1 htd1 HTD HF
  go_wp2_with fail
  refine (unhide HN _ (unhide HTD1).below).mono ?_
  rintro e w2 ⟨v', rfl, ⟨b1, rfl⟩, hn2, hb2⟩
  have htd2 := (unhide HTD1).on hb2
  have hss2 := hb2.size
  simp only [size_setCell] at hss2
  have k2 := htd2.ba.cell (i := 2) (by omega); have o1 := htd2.bo.cell (i := 1) (by omega); have of1 := htd2.bo.frozen
  simp only [row3] at k2 o1
  have hcr1 : ∀ x, w.heap.size + 3 ≤ x → x < w1.heap.size → w2.heap[x]? = w1.heap[x]? := fun x h1 h2 => by rw [hb2.block x (by simp only [size_setCell]; exact h2), Below.heap_setCell _ _ _ _ (by simp; omega)]
  have hf2 : FsAt (fun x => (w.heap.size + 3 ≤ x ∧ x < w2.heap.size) ∧ FreeB w2 x) w2 (.slice b0 nf nf) d.files := (unhide HF1).carry (fun x hx => hcr1 x hx.1.1 hx.1.2) (fun x hx => ⟨⟨hx.1.1, by have := hx.1.2; omega⟩, hx.2.of_block (hcr1 x hx.1.1 hx.1.2)⟩)
  have hn2' : StrsAt (fun x => (w.heap.size + 3 ≤ x ∧ x < w2.heap.size) ∧ FreeB w2 x) w2 (.slice b1 nn nn) d.names := hn2.carry (fun _ _ => rfl) (fun x hx => ⟨⟨by have := hx.1.1; simp only [size_setCell] at this; omega, hx.1.2⟩, hx.2⟩)
  have HF2 := hide hf2; have HN2 := hide hn2'; have HTD2 := hide (htd2.put1 (.slice b1 nn nn))
  clear hf2 hn2 hn2' hb2 htd2 HTD1 HF1 HN hcr1
  go_wp2_with fail
  refine (unhide HM _ (unhide HTD2).below).mono ?_
  rintro e w3 ⟨b2, rfl, hm3, hb3⟩
  have htd3 := (unhide HTD2).on hb3
  have hss3 := hb3.size
  simp only [size_setCell] at hss3
  have o0 := htd3.bo.cell (i := 0) (by omega); have o1 := htd3.bo.cell (i := 1) (by omega); have o2 := htd3.bo.cell (i := 2) (by omega); have of1 := htd3.bo.frozen
  have y0 := htd3.br.cell (i := 0) (by omega); have y1 := htd3.br.cell (i := 1) (by omega); have y2 := htd3.br.cell (i := 2) (by omega); have yf := htd3.br.frozen
  simp only [row3] at o0 o1 o2 y0 y1 y2
  have hcr : ∀ x, w.heap.size + 3 ≤ x → x < w2.heap.size → w3.heap[x]? = w2.heap[x]? := fun x h1 h2 => by rw [hb3.block x (by simp only [size_setCell]; exact h2), Below.heap_setCell _ _ _ _ (by simp; omega)]
  have hdk : DkAt (fun x => (w.heap.size + 3 ≤ x ∧ x < w3.heap.size) ∧ FreeB w3 x) w3 d ⟨.slice b0 nf nf, .slice b1 nn nn, .slice b2 nm nm⟩ :=
    ⟨(unhide HF2).carry (fun x hx => hcr x hx.1.1 hx.1.2) (fun x hx => ⟨⟨hx.1.1, by have := hx.1.2; omega⟩, hx.2.of_block (hcr x hx.1.1 hx.1.2)⟩), (unhide HN2).carry (fun x hx => hcr x hx.1.1 hx.1.2) (fun x hx => ⟨⟨hx.1.1, by have := hx.1.2; omega⟩, hx.2.of_block (hcr x hx.1.1 hx.1.2)⟩), hm3.carry (fun _ _ => rfl) (fun x hx => ⟨⟨by have := hx.1.1; simp only [size_setCell] at this; omega, hx.1.2⟩, hx.2⟩)⟩
  have HDK := hide hdk; have HBL := hide htd3.below
  clear hdk hcr hm3 hb3 htd3 HTD2 HF2 HN2 HM
  go_wp2_with fail
  refine bodyPost_ret (v := .agg #[.slice b0 nf nf, .slice b1 nn nn, .slice b2 nm nm]) (by simp [results, Tryz.results8, go_sem, y0, y1, y2]) rfl ⟨⟨_, _, _⟩, rfl, (unhide HDK).carry (fun x hx => ?_) (fun x hx => ⟨⟨by have := hx.1.1; omega, by simp only [size_setCell]; exact hx.1.2⟩, hx.2.of_block ?_⟩), ?_⟩
  · have := hx.1.1
    repeat rw [Below.heap_setCell _ _ _ _ (by simp; omega)]
  · have := hx.1.1
    repeat rw [Below.heap_setCell _ _ _ _ (by simp; omega)]
  · repeat refine Below.setCell ?_ (by simp <;> omega) _
    exact unhide HBL
end Go.Proofs.YtgdiankfnemjjaaGreat
