/- The walk of the program's KindRead: it answers as the function progK does, in blocks of the answer's own. For texts of at most 2^20 bytes. -/
import Derived.Test.YthkjhmcbmakkdaaDoorPart28
namespace Go.Proofs.YthkjhmcbmakkdaaDoor
open Go Go.RowKit

/-- The boxes of KindRead. -/
structure Bx (w : World) (n : Nat) (s : ByteArray) (c : C3) (W : World) : Prop where
  text : W.cell? ⟨n, 0, none⟩ = some (.string s)
  ans : W.rowIs (n + 1) 26 3 (row3 (.int .i64 0) (.slice none 0 0) (.slice none 0 0))
  read : W.rowIs (n + 2) 26 3 (row3 c.c0 c.c1 c.c2)
  below : Below n w W
  size : n + 3 ≤ W.heap.size
theorem Bx.kept {w W W' : World} {n : Nat} {s : ByteArray} {c : C3} {row : Option Nat} (h : Bx w n s c W) (hg : W.grownBy W' row) (hr : ∀ b, row = some b → n + 3 ≤ b) : Bx w n s c W' := by
  have hs := h.size
  have hb : ∀ i, i < n + 3 → W'.heap[i]? = W.heap[i]? := fun i hi => hg.block i (by omega) (fun e => by have := hr i e.symm; omega)
  exact ⟨by rw [World.cell?_of_block (w := W) (hb n (by omega))]; exact h.text, h.ans.of_block (hb _ (by omega)), h.read.of_block (hb _ (by omega)),
    ⟨hg.os.trans h.below.os, hg.tape.trans h.below.tape, hg.output.trans h.below.output, Nat.le_trans h.below.size hg.size, fun k hk => (hb k (by omega)).trans (h.below.block k hk)⟩, Nat.le_trans h.size hg.size⟩
theorem Bx.put {w W : World} {n : Nat} {s : ByteArray} {c c' : C3} (h : Bx w n s c W) : Bx w n s c' (set3 W (n + 2) c') := by
  have hb : ∀ i, i < n + 2 → (set3 W (n + 2) c').heap[i]? = W.heap[i]? := fun i hi => set3_heap _ _ _ _ (by omega)
  refine ⟨by rw [World.cell?_of_block (w := W) (hb n (by omega))]; exact h.text, h.ans.of_block (hb _ (by omega)), ?_, below_set3 h.below _ _ (by omega), by rw [set3_size]; exact h.size⟩
  exact (((h.read.set 0 c'.c0).set 1 c'.c1).set 2 c'.c2).congr (fun i hi => by
    match i, hi with
    | 0, _ => rfl
    | 1, _ => rfl
    | 2, _ => rfl)

def zK : C3 := ⟨.int .i64 0, .slice none 0 0, .slice none 0 0⟩

set_option maxRecDepth 100000 in
set_option maxHeartbeats 1600000 in
theorem work_yes (w : World) (n : Nat) (s : ByteArray) (hs : s.size ≤ 1048576) (W : World) (h : Bx w n s zK W) (hT : KTab W) {k : Kd} (hY : progK s.data.toList = some k) :
    Calls Tryd.prog 28 #[.pointer (some ⟨n, 0, none⟩), .pointer (some ⟨n + 2, 0, none⟩)] W fun e w' => e = .returned (.tuple #[]) ∧ (∃ c F, OwnD w' k c F ∧ F.Nodup ∧ (∀ b, b ∈ F → W.heap.size ≤ b ∧ b < w'.heap.size) ∧ Bx w n s c w') ∧ ∀ i, n + 3 ≤ i → i < W.heap.size → w'.heap[i]? = W.heap[i]? := by
  have hrd : PRdr (W.alloc (.cells #[.string s, .int .i64 0] 97)) W.heap.size s 0 := row2_alloc W _ _ _
  have hwh := whole_any _ W.heap.size s hs hrd (hT.below ((Below.refl _ _).alloc (Nat.le_refl _) _)) (by have := hT.lt; omega)
  rw [hY] at hwh
  have c0 := h.text
  have HBX := hide (h.kept (World.grownBy_alloc W (.cells #[.string s, .int .i64 0] 97) none) (fun b e => by cases e))
  have hsz := h.size
  have hwh2 : Calls Tryd.prog 30 #[.pointer (some ⟨W.heap.size, 0, none⟩)] (W.alloc (.cells #[.string s, .int .i64 0] 97)) fun e w2 => ∃ (y0 : Int) (ap : Option Addr) (np cp : Nat) (aq : Option Addr) (nq cq : Nat) (F : List Nat), e = .returned (.agg #[.int .i64 y0, .slice ap np cp, .slice aq nq cq]) ∧ Hid (OwnD w2 k ⟨.int .i64 y0, .slice ap np cp, .slice aq nq cq⟩ F) ∧ F.Nodup ∧ Hid (∀ b, b ∈ F → W.heap.size + 1 ≤ b ∧ b < w2.heap.size) ∧ Hid (But W.heap.size (W.alloc (.cells #[.string s, .int .i64 0] 97)) w2) ∧ w2.cell? ⟨n + 2, 0, none⟩ = some (.int .i64 0) ∧ w2.cell? ⟨n + 2, 1, none⟩ = some (.slice none 0 0) ∧ w2.cell? ⟨n + 2, 2, none⟩ = some (.slice none 0 0) ∧ w2.frozen? ⟨n + 2, 0, none⟩ = false ∧ w2.frozen? ⟨n + 2, 1, none⟩ = false ∧ w2.frozen? ⟨n + 2, 2, none⟩ = false := hwh.mono (by
    rintro e w2 (⟨k', ⟨y0, y1, y2⟩, F, hk, rfl, ho, hnd, hF, hb⟩ | ⟨hk, -⟩)
    · cases hk
      obtain ⟨p0, -, F1, F2, -, ⟨ap, cp, p1, -⟩, aq, cq, p2, -⟩ := ho.open
      simp only at p0 p1 p2
      subst p0 p1 p2
      have hr := ((unhide HBX).kept hb (fun b e => by cases e; omega)).read
      exact ⟨_, _, _, _, _, _, _, F, rfl, ho, hnd, fun b hb' => by have := hF b hb'; rw [World.size_alloc] at this; exact this, hb, hr.cell (i := 0) (by omega), hr.cell (i := 1) (by omega), hr.cell (i := 2) (by omega), hr.frozen 0, hr.frozen 1, hr.frozen 2⟩
    · cases hk)
  have HWH := hide hwh2
  clear h hwh hwh2 hrd hT hY
  go_enter Tryd.func28, Tryd.ntmps28
  go_wp2_with (first
    | (go_at_call 29; refine (newReader_any s W).mono ?_; rintro e w1 ⟨rfl, rfl⟩)
    | (go_at_call 30
       refine (unhide HWH).mono ?_
       rintro e w2 ⟨y0, ap, np, cp, aq, nq, cq, F, rfl, HO, hnd, HF, HB, b0, b1, b2, z0, z1, z2⟩))
  go_end0
  have hb2 := (unhide HBX).kept (unhide HB) (fun b e => by cases e; omega)
  refine ⟨rfl, ⟨⟨_, _, _⟩, F, OwnD.carry k _ F (fun b hb => set3_heap w2 (n + 2) ⟨_, _, _⟩ b (by have := (unhide HF b hb).1; omega)) (unhide HO), hnd, fun b hb => ?_, hb2.put⟩, fun i h1 h2 => ?_⟩
  · have h2 := set3_size w2 (n + 2) ⟨.int .i64 y0, .slice ap np cp, .slice aq nq cq⟩
    unfold set3 at h2
    simp only at h2
    rw [h2]
    have := unhide HF b hb
    omega
  · exact (set3_heap w2 (n + 2) ⟨_, _, _⟩ i (by omega)).trans (((unhide HB).at (by rw [World.size_alloc]; omega) (by omega)).trans (Below.heap_alloc _ _ _ h2))

set_option maxRecDepth 100000 in
set_option maxHeartbeats 1600000 in
theorem work_no (w : World) (n : Nat) (s : ByteArray) (hs : s.size ≤ 1048576) (W : World) (h : Bx w n s zK W) (hT : KTab W) (hY : progK s.data.toList = none) :
    Calls Tryd.prog 28 #[.pointer (some ⟨n, 0, none⟩), .pointer (some ⟨n + 2, 0, none⟩)] W fun e w' => e = fltE ∧ Bx w n s zK w' ∧ ∀ i, n + 3 ≤ i → i < W.heap.size → w'.heap[i]? = W.heap[i]? := by
  have hrd : PRdr (W.alloc (.cells #[.string s, .int .i64 0] 97)) W.heap.size s 0 := row2_alloc W _ _ _
  have hwh := whole_any _ W.heap.size s hs hrd (hT.below ((Below.refl _ _).alloc (Nat.le_refl _) _)) (by have := hT.lt; omega)
  rw [hY] at hwh
  have c0 := h.text
  have HBX := hide (h.kept (World.grownBy_alloc W (.cells #[.string s, .int .i64 0] 97) none) (fun b e => by cases e))
  have hsz := h.size
  have hwh2 : Calls Tryd.prog 30 #[.pointer (some ⟨W.heap.size, 0, none⟩)] (W.alloc (.cells #[.string s, .int .i64 0] 97)) fun e w2 => e = fltE ∧ Hid (But W.heap.size (W.alloc (.cells #[.string s, .int .i64 0] 97)) w2) := hwh.mono (by
    rintro e w2 (⟨k', c, F, hk, -⟩ | ⟨-, rfl, hb⟩)
    · cases hk
    · exact ⟨rfl, hb⟩)
  have HWH := hide hwh2
  clear h hwh hwh2 hrd hT hY
  go_enter Tryd.func28, Tryd.ntmps28
  go_wp2_with (first
    | (go_at_call 29; refine (newReader_any s W).mono ?_; rintro e w1 ⟨rfl, rfl⟩)
    | (go_at_call 30; refine (unhide HWH).mono ?_; rintro e w2 ⟨rfl, HB⟩))
  refine And.intro rfl ⟨rfl, (unhide HBX).kept (unhide HB) (fun b e => by cases e; omega), fun i h1 h2 => ?_⟩
  exact ((unhide HB).at (by rw [World.size_alloc]; omega) (by omega)).trans (Below.heap_alloc _ _ _ h2)

set_option maxRecDepth 100000 in
set_option maxHeartbeats 1600000 in
theorem implKindRead_any (w : World) (s : ByteArray) (hs : s.size ≤ 1048576) (hT : KTab w) :
    Calls Tryd.prog 9 #[.string s] w fun e w' => KAns (progK s.data.toList) w e w' := by
  obtain ⟨W0, hW0⟩ : ∃ W0, ((w.alloc (.cells #[.string s] 9)).alloc (.cells #[.int .i64 0, .slice none 0 0, .slice none 0 0] 26)).alloc (.cells #[.int .i64 0, .slice none 0 0, .slice none 0 0] 26) = W0 := ⟨_, rfl⟩
  have hbl : Below w.heap.size w W0 := by rw [← hW0]; exact (((Below.refl _ _).alloc (Nat.le_refl _) _).alloc (by simp) _).alloc (by simp; omega) _
  have hs0 : W0.heap.size = w.heap.size + 3 := by rw [← hW0]; simp
  have hbx : Bx w w.heap.size s zK W0 := by
    refine ⟨?_, ?_, ?_, hbl, by omega⟩
    · rw [← hW0]; simp [go_sem]
    · rw [← hW0]
      have q := row3_alloc (w.alloc (.cells #[.string s] 9)) (.int .i64 0) (.slice none 0 0) (.slice none 0 0) 26
      rw [World.size_alloc] at q
      exact q.alloc _
    · rw [← hW0]
      have q := row3_alloc ((w.alloc (.cells #[.string s] 9)).alloc (.cells #[.int .i64 0, .slice none 0 0, .slice none 0 0] 26)) (.int .i64 0) (.slice none 0 0) (.slice none 0 0) 26
      rw [World.size_alloc, World.size_alloc] at q
      exact q
  have hT0 : KTab W0 := hT.below hbl
  have hent : ∀ W, Sem.run Tryd.prog (callFunc 28 #[.pointer (some ⟨w.heap.size, 0, none⟩), .pointer (some ⟨w.heap.size + 2, 0, none⟩)]) W = .ok (.enter 28 #[.pointer (some ⟨w.heap.size, 0, none⟩), .pointer (some ⟨w.heap.size + 2, 0, none⟩)]) W := fun W => enters_of Tryd.func28 (by kernel_rfl) rfl _ W
  have hmf : ∀ (fn : Fn) (first cap : Array Value) (w : World), (Instr.makeFunc fn first cap).run Tryd.prog w = .ok (.func fn first cap) w := fun _ _ _ _ => rfl
  cases hY : progK s.data.toList with
  | none =>
    have htry := treeTry_no 28 #[.pointer (some ⟨w.heap.size, 0, none⟩), .pointer (some ⟨w.heap.size + 2, 0, none⟩)] W0 (fun w1 => Bx w w.heap.size s zK w1) hent (fun o => (work_no w w.heap.size s hs (W0.alloc o) (hbx.kept (World.grownBy_alloc W0 o none) (fun b e => by cases e)) (hT0.below ((Below.refl _ _).alloc (Nat.le_refl _) o)) hY).mono fun e w' ⟨h1, h2, h3⟩ => ⟨h1, h2, h3 _ (by omega) (by rw [World.size_alloc]; omega)⟩)
    have htry2 : Calls Tryd.prog 27 #[.func (.func 28) #[] #[.pointer (some ⟨w.heap.size, 0, none⟩), .pointer (some ⟨w.heap.size + 2, 0, none⟩)]] W0 fun e w' => e = .returned (.bool false) ∧ Bx w w.heap.size s zK w' := htry.mono fun e w' ⟨h1, w1, h2, h3⟩ => ⟨h1, h2.kept h3 (fun b e => by cases e; omega)⟩
    have HTR := hide htry2
    clear htry htry2 hbx hT0 hent hbl hY
    go_enter Tryd.func9, Tryd.ntmps9
    go_wp2_with (go_at_call 27
                 refine (unhide HTR).mono ?_
                 rintro e w1 ⟨rfl, hb1⟩
                 have HB1 := hide hb1
                 have a0 := hb1.ans.cell (i := 0) (by omega); have a1 := hb1.ans.cell (i := 1) (by omega); have a2 := hb1.ans.cell (i := 2) (by omega)
                 have z0 := hb1.ans.frozen 0; have z1 := hb1.ans.frozen 1; have z2 := hb1.ans.frozen 2
                 have r0 : w1.cell? ⟨w.heap.size + 1 + 1, 0, none⟩ = some (.int .i64 0) := hb1.read.cell (i := 0) (by omega)
                 have r1 : w1.cell? ⟨w.heap.size + 1 + 1, 1, none⟩ = some (.slice none 0 0) := hb1.read.cell (i := 1) (by omega)
                 have r2 : w1.cell? ⟨w.heap.size + 1 + 1, 2, none⟩ = some (.slice none 0 0) := hb1.read.cell (i := 2) (by omega)
                 simp only [row3] at a0 a1 a2
                 clear hb1)
    refine bodyPost_ret (v := .tuple #[.agg #[.int .i64 0, .slice none 0 0, .slice none 0 0], .bool false]) (by simp [results, Tryd.results9, go_sem, a0, a1, a2]) rfl ?_
    exact KAns.no rfl (below_set3 (unhide HB1).below _ ⟨_, _, _⟩ (by omega))
  | some k =>
    have htry := treeTry_yes 28 #[.pointer (some ⟨w.heap.size, 0, none⟩), .pointer (some ⟨w.heap.size + 2, 0, none⟩)] W0 (fun w1 => ∃ c F, OwnD w1 k c F ∧ F.Nodup ∧ (∀ b, b ∈ F → W0.heap.size + 1 ≤ b ∧ b < w1.heap.size) ∧ Bx w w.heap.size s c w1) hent (fun o => (work_yes w w.heap.size s hs (W0.alloc o) (hbx.kept (World.grownBy_alloc W0 o none) (fun b e => by cases e)) (hT0.below ((Below.refl _ _).alloc (Nat.le_refl _) o)) hY).mono fun e w' ⟨h1, ⟨c, F, h2, h3, h4, h5⟩, h6⟩ => ⟨h1, ⟨c, F, h2, h3, fun b hb => by have := h4 b hb; rw [World.size_alloc] at this; exact this, h5⟩, h6 _ (by omega) (by rw [World.size_alloc]; omega)⟩)
    have htry2 : Calls Tryd.prog 27 #[.func (.func 28) #[] #[.pointer (some ⟨w.heap.size, 0, none⟩), .pointer (some ⟨w.heap.size + 2, 0, none⟩)]] W0 fun e w1 => ∃ (y0 : Int) (ap : Option Addr) (np cp : Nat) (aq : Option Addr) (nq cq : Nat) (F : List Nat), e = .returned (.bool true) ∧ Hid (OwnD w1 k ⟨.int .i64 y0, .slice ap np cp, .slice aq nq cq⟩ F) ∧ F.Nodup ∧ Hid (∀ b, b ∈ F → w.heap.size + 4 ≤ b ∧ b < w1.heap.size) ∧ Bx w w.heap.size s ⟨.int .i64 y0, .slice ap np cp, .slice aq nq cq⟩ w1 := htry.mono (by
      rintro e w' ⟨rfl, w1, ⟨⟨y0, y1, y2⟩, F, ho, hnd, hF, hb⟩, hbut⟩
      obtain ⟨p0, -, F1, F2, -, ⟨ap, cp, p1, -⟩, aq, cq, p2, -⟩ := ho.open
      simp only at p0 p1 p2
      subst p0 p1 p2
      exact ⟨_, _, _, _, _, _, _, F, rfl, ho.but hbut (fun b hb => by have := hF b hb; omega), hnd, fun b hb => by have := hF b hb; have := hbut.size; omega, hb.kept hbut (fun b e => by cases e; omega)⟩)
    have HTR := hide htry2
    clear htry htry2 hbx hT0 hent hbl hY
    go_enter Tryd.func9, Tryd.ntmps9
    go_wp2_with (go_at_call 27
                 refine (unhide HTR).mono ?_
                 rintro e w1 ⟨y0, ap, np, cp, aq, nq, cq, F, rfl, HO, hnd, HF, hb1⟩
                 have HB1 := hide hb1
                 have a0 := hb1.ans.cell (i := 0) (by omega); have a1 := hb1.ans.cell (i := 1) (by omega); have a2 := hb1.ans.cell (i := 2) (by omega)
                 have z0 := hb1.ans.frozen 0; have z1 := hb1.ans.frozen 1; have z2 := hb1.ans.frozen 2
                 have r0 : w1.cell? ⟨w.heap.size + 1 + 1, 0, none⟩ = some (.int .i64 y0) := hb1.read.cell (i := 0) (by omega)
                 have r1 : w1.cell? ⟨w.heap.size + 1 + 1, 1, none⟩ = some (.slice ap np cp) := hb1.read.cell (i := 1) (by omega)
                 have r2 : w1.cell? ⟨w.heap.size + 1 + 1, 2, none⟩ = some (.slice aq nq cq) := hb1.read.cell (i := 2) (by omega)
                 simp only [row3] at a0 a1 a2
                 clear hb1)
    refine bodyPost_ret (v := .tuple #[.agg #[.int .i64 y0, .slice ap np cp, .slice aq nq cq], .bool true]) (by simp [results, Tryd.results9, go_sem, a0, a1, a2]) rfl ?_
    refine ⟨k, true, ⟨_, _, _⟩, F, Or.inl ⟨rfl, rfl⟩, rfl, OwnD.carry k _ F (fun b hb => set3_heap w1 (w.heap.size + 1) ⟨_, _, _⟩ b (by have := (unhide HF b hb).1; omega)) (unhide HO), hnd, fun b hb => ?_, below_set3 (unhide HB1).below _ ⟨_, _, _⟩ (by omega)⟩
    have h2 := set3_size w1 (w.heap.size + 1) ⟨.int .i64 y0, .slice ap np cp, .slice aq nq cq⟩
    unfold set3 at h2
    simp only at h2
    rw [h2]
    have := unhide HF b hb
    omega
end Go.Proofs.YthkjhmcbmakkdaaDoor
