/- The walk of the program's newTreeReader. No conditions. -/
import Derived.Test.YtgamonfmgngilaaGreatDoorPart26
import Derived.Laws.EntriesVeiled
import Derived.Test.YtgamonfmgngilaaGreatDoorPart27
import Derived.Test.YtgamonfmgngilaaGreatDoorPart21
import Derived.Test.YtgamonfmgngilaaGreatDoorPart14
import Derived.Test.YtgamonfmgngilaaGreatDoorPart18
namespace Go.Proofs.YtgamonfmgngilaaGreatDoor
open Go Go.RowKit

theorem zeroTR : Tryz.zeroCells102 = #[.int .i64 0, .int .i64 0, .string ByteArray.empty, .int .i64 0] ++ Array.replicate 256 .nilFunc := by kernel_rfl

/-- The cells of a reader without methods. -/
def f0 (s : ByteArray) (i : Nat) : Value := if i = 2 then .string s else if i < 4 then .int .i64 0 else .nilFunc

theorem row0 (w : World) (s : ByteArray) : (w.alloc (.cells ((Tryz.zeroCells102.setIfInBounds 2 (.string s)).setIfInBounds 3 (.int .i64 0)) 102)).rowIs w.heap.size 102 260 (f0 s) := by
  have h := World.rowIs_alloc w ((Tryz.zeroCells102.setIfInBounds 2 (.string s)).setIfInBounds 3 (.int .i64 0)) 102 (f0 s) (fun i hi => by
    rw [zeroTR] at hi ⊢
    simp only [Array.size_setIfInBounds, Array.size_append, Array.size_replicate] at hi
    rw [Array.getElem?_setIfInBounds, Array.getElem?_setIfInBounds]
    have hsz : (#[Value.int .i64 0, .int .i64 0, .string ByteArray.empty, .int .i64 0] : Array Value).size = 4 := rfl
    rw [hsz] at hi
    by_cases h3 : 3 = i
    · subst h3; simp [f0]
    · rw [if_neg h3]
      by_cases h2 : 2 = i
      · subst h2; simp [f0]
      · rw [if_neg h2]
        by_cases h4 : i < 4
        · have hi2 : i = 0 ∨ i = 1 := by omega
          rcases hi2 with rfl | rfl <;> simp [f0]
        · rw [Array.getElem?_append_right (by rw [hsz]; omega), hsz]
          simp only [f0]
          rw [if_neg (by omega), if_neg h4, Array.getElem?_replicate, if_pos (by omega)])
  have e : ((Tryz.zeroCells102.setIfInBounds 2 (.string s)).setIfInBounds 3 (.int .i64 0)).size = 260 := by
    rw [Array.size_setIfInBounds, Array.size_setIfInBounds, zeroTR]; simp
  rw [e] at h
  exact h

theorem TR.of_row {W : World} {N : Nat} {s : ByteArray} {a : Nat} {p l : Int} {f : Nat → Value} (h : W.rowIs N 102 260 f) (h0 : f 0 = .int .i64 p) (h1 : f 1 = .int .i64 l) (h2 : f 2 = .string s) (h3 : f 3 = .int .i64 a) (h4 : ∀ i, i < 256 → f (4 + i) = srt N i) : TR W N s a p l :=
  ⟨⟨by rw [h.cell (by omega), h0], by rw [h.cell (by omega), h1], h.frozen 0, h.frozen 1⟩, ⟨by rw [h.cell (by omega), h2], by rw [h.cell (by omega), h3], h.frozen 3⟩, fun i hi => by rw [h.cell (by omega), h4 i hi]⟩

/-- The row behind the last store. -/
theorem row_end {W : World} {N : Nat} {s : ByteArray} (h : W.rowIs N 102 260 (fun j => if 52 ≤ j ∧ j < 4 + 58 then .func (.func 59) #[.pointer (some ⟨N, 0, none⟩)] #[] else f0 s j)) :
    TR ((((((((W.setCell ⟨N, 49, none⟩ (.func (.func 59) #[.pointer (some ⟨N, 0, none⟩)] #[])).setCell ⟨N, 38, none⟩ (.func (.func 60) #[.pointer (some ⟨N, 0, none⟩)] #[])).setCell ⟨N, 125, none⟩ (.func (.func 61) #[.pointer (some ⟨N, 0, none⟩)] #[])).setCell ⟨N, 114, none⟩ (.func (.func 61) #[.pointer (some ⟨N, 0, none⟩)] #[])).setCell ⟨N, 95, none⟩ (.func (.func 62) #[.pointer (some ⟨N, 0, none⟩)] #[])).setCell ⟨N, 127, none⟩ (.func (.func 63) #[.pointer (some ⟨N, 0, none⟩)] #[])).setCell ⟨N, 130, none⟩ (.func (.func 64) #[.pointer (some ⟨N, 0, none⟩)] #[])).setCell ⟨N, 67, none⟩ (.func (.func 64) #[.pointer (some ⟨N, 0, none⟩)] #[])) N s 0 0 0 := by
  have h8 := ((((((((h.set 49 (.func (.func 59) #[.pointer (some ⟨N, 0, none⟩)] #[])).set 38 (.func (.func 60) #[.pointer (some ⟨N, 0, none⟩)] #[])).set 125 (.func (.func 61) #[.pointer (some ⟨N, 0, none⟩)] #[])).set 114 (.func (.func 61) #[.pointer (some ⟨N, 0, none⟩)] #[])).set 95 (.func (.func 62) #[.pointer (some ⟨N, 0, none⟩)] #[])).set 127 (.func (.func 63) #[.pointer (some ⟨N, 0, none⟩)] #[])).set 130 (.func (.func 64) #[.pointer (some ⟨N, 0, none⟩)] #[])).set 67 (.func (.func 64) #[.pointer (some ⟨N, 0, none⟩)] #[]))
  refine TR.of_row h8 (by simp [f0]) (by simp [f0]) (by simp [f0]) (by simp [f0]) (fun i hi => ?_)
  clear h8 h
  unfold srt
  by_cases e1 : i = 63
  · subst e1; simp
  by_cases e2 : i = 126
  · subst e2; simp
  by_cases e3 : i = 123
  · subst e3; simp
  by_cases e4 : i = 91
  · subst e4; simp
  by_cases e5 : i = 110
  · subst e5; simp
  by_cases e6 : i = 121
  · subst e6; simp
  by_cases e7 : i = 34
  · subst e7; simp
  by_cases e8 : i = 45
  · subst e8; simp
  rw [if_neg (by omega), if_neg (by omega), if_neg (by omega), if_neg (by omega), if_neg (by omega), if_neg (by omega), if_neg (by omega), if_neg (by omega)]
  by_cases e9 : 48 ≤ i ∧ i ≤ 57
  · rw [if_pos (by omega), if_pos (Or.inl e9)]
  · rw [if_neg (by omega), if_neg (by omega), if_neg e7, if_neg (by omega), if_neg e4, if_neg e3, if_neg (by omega)]
    unfold f0
    rw [if_neg (by omega), if_neg (by omega)]
theorem below_end {w W : World} {N : Nat} (hb : Below N w W) : Below N w ((((((((W.setCell ⟨N, 49, none⟩ (.func (.func 59) #[.pointer (some ⟨N, 0, none⟩)] #[])).setCell ⟨N, 38, none⟩ (.func (.func 60) #[.pointer (some ⟨N, 0, none⟩)] #[])).setCell ⟨N, 125, none⟩ (.func (.func 61) #[.pointer (some ⟨N, 0, none⟩)] #[])).setCell ⟨N, 114, none⟩ (.func (.func 61) #[.pointer (some ⟨N, 0, none⟩)] #[])).setCell ⟨N, 95, none⟩ (.func (.func 62) #[.pointer (some ⟨N, 0, none⟩)] #[])).setCell ⟨N, 127, none⟩ (.func (.func 63) #[.pointer (some ⟨N, 0, none⟩)] #[])).setCell ⟨N, 130, none⟩ (.func (.func 64) #[.pointer (some ⟨N, 0, none⟩)] #[])).setCell ⟨N, 67, none⟩ (.func (.func 64) #[.pointer (some ⟨N, 0, none⟩)] #[])) := ((((((((hb.setCell (p := ⟨N, 49, none⟩) (Nat.le_refl N) (.func (.func 59) #[.pointer (some ⟨N, 0, none⟩)] #[])).setCell (p := ⟨N, 38, none⟩) (Nat.le_refl N) (.func (.func 60) #[.pointer (some ⟨N, 0, none⟩)] #[])).setCell (p := ⟨N, 125, none⟩) (Nat.le_refl N) (.func (.func 61) #[.pointer (some ⟨N, 0, none⟩)] #[])).setCell (p := ⟨N, 114, none⟩) (Nat.le_refl N) (.func (.func 61) #[.pointer (some ⟨N, 0, none⟩)] #[])).setCell (p := ⟨N, 95, none⟩) (Nat.le_refl N) (.func (.func 62) #[.pointer (some ⟨N, 0, none⟩)] #[])).setCell (p := ⟨N, 127, none⟩) (Nat.le_refl N) (.func (.func 63) #[.pointer (some ⟨N, 0, none⟩)] #[])).setCell (p := ⟨N, 130, none⟩) (Nat.le_refl N) (.func (.func 64) #[.pointer (some ⟨N, 0, none⟩)] #[])).setCell (p := ⟨N, 67, none⟩) (Nat.le_refl N) (.func (.func 64) #[.pointer (some ⟨N, 0, none⟩)] #[]))

set_option maxRecDepth 100000 in
set_option maxHeartbeats 1600000 in
theorem newReader_walk (s : ByteArray) (w : World) :
    Calls Tryz.prog 29 #[.string s] w fun e w' => e = .returned (.pointer (some ⟨w.heap.size, 0, none⟩)) ∧ TR w' w.heap.size s 0 0 0 ∧ Below w.heap.size w w' := by
  have hmf : ∀ (fn : Fn) (first cap : Array Value) (w : World), (Instr.makeFunc fn first cap).run Tryz.prog w = .ok (.func fn first cap) w := fun _ _ _ _ => rfl
  have HR0 := hide (row0 w s)
  have HB0 := hide ((Below.refl w.heap.size w).alloc (Nat.le_refl _) (.cells ((Tryz.zeroCells102.setIfInBounds 2 (.string s)).setIfInBounds 3 (.int .i64 0)) 102))
  go_enter Tryz.func29, Tryz.ntmps29
  go_wp2_with fail
  generalize w.alloc (.cells ((Tryz.zeroCells102.setIfInBounds 2 (.string s)).setIfInBounds 3 (.int .i64 0)) 102) = W0 at *
  generalize hN : w.heap.size = N at *
  go_loopw [4] (fun d wr => ∃ k : Nat, 48 ≤ k ∧ k ≤ 58 ∧ d = .int .i32 k ∧ Hid (wr.rowIs N 102 260 (fun j => if 52 ≤ j ∧ j < 4 + k then .func (.func 59) #[.pointer (some ⟨N, 0, none⟩)] #[] else f0 s j)) ∧ Hid (Below N w wr)) (fun d _ => 58 - (intOf d).toNat)
  case atStart => exact ⟨48, Nat.le_refl _, by omega, rfl, hide ((unhide HR0).congr (fun i hi => by rw [if_neg (by omega)])), HB0⟩
  case round =>
    obtain ⟨k, hk0, hk1, rfl, HR, HB⟩ := hrel
    have hfz : ∀ i, wr.frozen? ⟨N, i, none⟩ = false := fun i => HR.out.frozen i
    by_cases hlt : k < 58
    · have hc := HR.out.cell (i := 4 + k) (by omega)
      simp only [f0] at hc
      rw [if_neg (by omega), if_neg (by omega), if_neg (by omega)] at hc
      have hf := hfz (4 + k)
      have hdl : decide ((k : Int) ≤ 57) = true := by simp; omega
      have hrow : (wr.setCell ⟨N, 4 + k, none⟩ (.func (.func 59) #[.pointer (some ⟨N, 0, none⟩)] #[])).rowIs N 102 260 (fun j => if 52 ≤ j ∧ j < 4 + (k + 1) then .func (.func 59) #[.pointer (some ⟨N, 0, none⟩)] #[] else f0 s j) := by
        refine (HR.out.set (4 + k) _).congr fun j hj => ?_
        by_cases e : j = 4 + k
        · rw [if_pos e, if_pos (by omega)]
        · rw [if_neg e]
          by_cases e2 : 52 ≤ j ∧ j < 4 + k
          · rw [if_pos e2, if_pos (by omega)]
          · rw [if_neg e2, if_neg (by omega)]
      have HROW := hide hrow
      have HBB := hide (HB.out.setCell (p := ⟨N, 4 + k, none⟩) (Nat.le_refl N) (.func (.func 59) #[.pointer (some ⟨N, 0, none⟩)] #[]))
      clear hfz hrow
      go_wp2_with fail
      go_roundw
      case rel => exact ⟨k + 1, by omega, by omega, by go_num, HROW, HBB⟩
      case measure => simp [intOf]; omega
    · obtain rfl : k = 58 := by omega
      have hdl : decide (((58 : Nat) : Int) ≤ 57) = false := by decide
      have hc1 := HR.out.cell (i := 49) (by omega); have hc2 := HR.out.cell (i := 38) (by omega); have hc3 := HR.out.cell (i := 125) (by omega); have hc4 := HR.out.cell (i := 114) (by omega)
      have hc5 := HR.out.cell (i := 95) (by omega); have hc6 := HR.out.cell (i := 127) (by omega); have hc7 := HR.out.cell (i := 130) (by omega); have hc8 := HR.out.cell (i := 67) (by omega)
      simp [f0] at hc1 hc2 hc3 hc4 hc5 hc6 hc7 hc8
      have hz1 := hfz 49; have hz2 := hfz 38; have hz3 := hfz 125; have hz4 := hfz 114; have hz5 := hfz 95; have hz6 := hfz 127; have hz7 := hfz 130; have hz8 := hfz 67
      have HTE := hide (row_end HR.out); have HBE := hide (below_end (N := N) HB.out)
      clear hfz
      go_wp2_with fail
      go_ret
      subst hN
      exact ⟨rfl, unhide HTE, unhide HBE⟩
end Go.Proofs.YtgamonfmgngilaaGreatDoor

/- The walk of the program's TreeRead: it answers as the function rdO does, in blocks of the answer's own. The tables of strconv are as the program's text lays them; for texts of at most 2^20 bytes. -/

namespace Go.Proofs.YtgamonfmgngilaaGreatDoor
open Go Go.RowKit

theorem lf_zero (s : ByteArray) : lf s 0 = s.data.toList := by unfold lf; simp
theorem size_data (s : ByteArray) : s.data.toList.length = s.size := rfl

/-- What TreeRead comes to. -/
noncomputable def rdO (s : ByteArray) : Option Tr := if s.size ≤ 10000 then progRd s.data.toList else none
theorem whl_some {s : ByteArray} {t : Tr} {rest : List UInt8} {q : Int} (h : whlO s = some (t, rest, q)) : rdO s = some t ∧ wlk t 0 0 = some q := by
  unfold whlO at h
  unfold rdO progRd
  split at h
  · rename_i h1
    rw [if_pos h1, ← lf_zero]
    cases hr : rdT 6 (lf s 0) 0 with
    | none => rw [hr] at h; cases h
    | some x =>
      obtain ⟨t', r', q'⟩ := x
      rw [hr] at h
      simp only at h
      split at h
      · rename_i he
        simp only [Option.some.injEq, Prod.mk.injEq] at h
        obtain ⟨rfl, rfl, rfl⟩ := h
        subst he
        have := (rdT_sound 6 _ _ _ _ _ (Nat.le_refl _) hr).2
        exact ⟨rfl, by simpa using this⟩
      · cases h
  · cases h
theorem whl_none {s : ByteArray} (h : whlO s = none) : rdO s = none := by
  unfold whlO at h
  unfold rdO progRd
  split at h
  · rename_i h1
    rw [if_pos h1, ← lf_zero]
    cases hr : rdT 6 (lf s 0) 0 with
    | none => rfl
    | some x =>
      obtain ⟨t', r', q'⟩ := x
      rw [hr] at h
      simp only at h
      split at h
      · cases h
      · rename_i he
        cases r' with
        | nil => exact absurd rfl he
        | cons a b => rfl
  · rename_i h1
    rw [if_neg h1]

/-- An answer of TreeRead: a tree in blocks of its own and true, or nothing and false. -/
def TAns (o : Option Tr) (w : World) (e : Ending) (w' : World) : Prop :=
  ∃ (t : Tr) (b : Bool) (c : C5) (F : List Nat), ((o = some t ∧ b = true) ∨ (o = none ∧ b = false ∧ t = .mk 0 0 ByteArray.empty [] [])) ∧ e = .returned (.tuple #[.agg #[c.c0, c.c1, c.c2, c.c3, c.c4], .bool b]) ∧ Own w' t c F ∧ F.Nodup ∧ (∀ b, b ∈ F → w.heap.size ≤ b ∧ b < w'.heap.size) ∧ Below w.heap.size w w'
theorem TAns.no {o : Option Tr} {w w' : World} (h : o = none) (hb : Below w.heap.size w w') : TAns o w (.returned (.tuple #[.agg #[.int .i64 0, .int .i64 0, .string ByteArray.empty, .slice none 0 0, .slice none 0 0], .bool false])) w' :=
  ⟨.mk 0 0 ByteArray.empty [] [], false, ⟨_, _, _, _, _⟩, [], Or.inr ⟨h, rfl, rfl⟩, rfl, Own.leafT _ 0 0 ByteArray.empty ⟨by decide, by decide⟩ ⟨by decide, by decide⟩ (by simp), List.nodup_nil, fun b hb => by simp at hb, hb⟩

def zT : C5 := ⟨.int .i64 0, .int .i64 0, .string ⟨#[]⟩, .slice none 0 0, .slice none 0 0⟩

/-- The boxes of TreeRead. -/
structure Bt (w : World) (n : Nat) (s : ByteArray) (c : C5) (W : World) : Prop where
  text : W.cell? ⟨n, 0, none⟩ = some (.string s)
  ans : W.rowIs (n + 1) 26 5 (row5 zT.c0 zT.c1 zT.c2 zT.c3 zT.c4)
  read : W.rowIs (n + 2) 26 5 (row5 c.c0 c.c1 c.c2 c.c3 c.c4)
  below : Below n w W
  size : n + 3 ≤ W.heap.size
theorem Bt.kept {w W W' : World} {n : Nat} {s : ByteArray} {c : C5} {row : Option Nat} (h : Bt w n s c W) (hg : W.grownBy W' row) (hr : ∀ b, row = some b → n + 3 ≤ b) : Bt w n s c W' := by
  have hs := h.size
  have hb : ∀ i, i < n + 3 → W'.heap[i]? = W.heap[i]? := fun i hi => hg.block i (by omega) (fun e => by have := hr i e.symm; omega)
  exact ⟨by rw [World.cell?_of_block (w := W) (hb n (by omega))]; exact h.text, h.ans.of_block (hb _ (by omega)), h.read.of_block (hb _ (by omega)),
    ⟨hg.os.trans h.below.os, hg.tape.trans h.below.tape, hg.output.trans h.below.output, Nat.le_trans h.below.size hg.size, fun k hk => (hb k (by omega)).trans (h.below.block k hk)⟩, Nat.le_trans h.size hg.size⟩
theorem Bt.on {w W W' : World} {n : Nat} {s : ByteArray} {c : C5} (h : Bt w n s c W) (hb : Below W.heap.size W W') : Bt w n s c W' := h.kept (row := none) ⟨hb.os, hb.tape, hb.output, hb.size, fun i hi _ => hb.block i hi⟩ (fun b e => by cases e)
theorem Bt.put {w W : World} {n : Nat} {s : ByteArray} {c c' : C5} (h : Bt w n s c W) : Bt w n s c' (set5 W (n + 2) c') := by
  have hb : ∀ i, i < n + 2 → (set5 W (n + 2) c').heap[i]? = W.heap[i]? := fun i hi => set5_heap _ _ _ _ (by omega)
  have h1 : (set5 W (n + 2) c').cell? ⟨n, 0, none⟩ = W.cell? ⟨n, 0, none⟩ := World.cell?_of_block (a := ⟨n, 0, none⟩) (hb n (by omega))
  have h2 := h.ans.of_block (hb (n + 1) (by omega))
  have h3 := row5_set5 (c' := c') h.read
  have h4 := below_set5 h.below (n + 2) c' (by omega)
  have h5 := set5_size W (n + 2) c'
  have h6 := h.size
  have h7 := h.text
  generalize set5 W (n + 2) c' = W' at *
  exact ⟨h1.trans h7, h2, h3, h4, by omega⟩

/-- The whole reading, from the text on: newTreeReader and whole. -/
theorem read_part (W : World) (s : ByteArray) (hs : s.size ≤ 1048576) (hE : Env W) (W1 : World) (htr : TR W1 W.heap.size s 0 0 0) (hb : Below W.heap.size W W1) :
    Calls Tryz.prog 30 #[.pointer (some ⟨W.heap.size, 0, none⟩)] W1 fun e w2 => Below W.heap.size W w2 ∧ ((∃ t q v, rdO s = some t ∧ wlk t 0 0 = some q ∧ e = .returned v ∧ SRep (fun b => b < w2.heap.size) w2 t v) ∨ (rdO s = none ∧ e = fltE)) := by
  refine (whole_walk W1 W.heap.size s hs htr (hE.below hb) hE.top).mono ?_
  rintro e w2 ⟨hb2, h⟩
  have hlt := htr.lt
  have hbb : Below W.heap.size W w2 := ⟨hb2.os.trans hb.os, hb2.tape.trans hb.tape, hb2.output.trans hb.output, Nat.le_trans hb.size hb2.size, fun i hi => (hb2.at (by omega) (by omega)).trans (hb.block i hi)⟩
  refine ⟨hbb, ?_⟩
  rcases h with ⟨t, a2, q, v, h1, -, rfl, h4, -⟩ | ⟨h1, rfl⟩
  · obtain ⟨g1, g2⟩ := whl_some h1
    exact Or.inl ⟨t, q, v, g1, g2, rfl, SRep.carry (fun _ _ => rfl) (fun b hb => hb.2) _ _ h4⟩
  · exact Or.inr ⟨whl_none h1, rfl⟩

set_option maxRecDepth 100000 in
set_option maxHeartbeats 1600000 in
theorem workT_yes (w : World) (n : Nat) (s : ByteArray) (hs : s.size ≤ 1048576) (W : World) (h : Bt w n s zT W) (hE : Env W) {t : Tr} (hY : rdO s = some t) :
    Calls Tryz.prog 27 #[.pointer (some ⟨n, 0, none⟩), .pointer (some ⟨n + 2, 0, none⟩)] W fun e w' => e = .returned (.tuple #[]) ∧ (∃ c F, Own w' t c F ∧ F.Nodup ∧ (∀ b, b ∈ F → W.heap.size ≤ b ∧ b < w'.heap.size) ∧ Bt w n s c w') ∧ ∀ i, n + 3 ≤ i → i < W.heap.size → w'.heap[i]? = W.heap[i]? := by
  have c0 := h.text
  have hsz := h.size
  have HNR := hide (newReader_walk s W)
  have HRP := hide (fun W1 h1 h2 => read_part W s hs hE W1 h1 h2)
  have H := hide h; have HY := hide hY
  clear h hE hY
  go_enter Tryz.func27, Tryz.ntmps27
  go_wp2_with (go_at_call 29; refine (unhide HNR).mono ?_; rintro e w1 ⟨rfl, htr, hb1⟩; have HTR := hide htr; have HB1 := hide hb1; clear htr hb1 HNR)
  refine (unhide HRP w1 (unhide HTR) (unhide HB1)).mono ?_
  rintro e w2 ⟨hb2, ⟨t', q, v, h1, h2, rfl, h4⟩ | ⟨h1, -⟩⟩
  · have ht : t' = t := by have := unhide HY; rw [h1] at this; simpa using this
    subst ht
    have hpl := plainTree_all (tsz t' + 1) t' (by omega) 0 0 q (by omega) (by omega) h2 (fun b => b < w2.heap.size) v w2 (fun _ h => h) h4
    obtain ⟨T, x, rfl⟩ := h4.iface
    have HPL := hide hpl; have HB2 := hide hb2
    clear hpl h1 h2 h4 hb2 HRP HTR HB1
    go_wp2_with fail
    refine (unhide HPL).mono ?_
    rintro e w3 ⟨⟨d0, d1, d2, d3, d4⟩, F, rfl, ho, hnd, hF, hb3⟩
    obtain ⟨p0, p1, p2, -, -, -, F1, F2, -, ⟨a5, cap5, p3, -⟩, a6, cap6, p4, -⟩ := ho.open
    simp only at p0 p1 p2 p3 p4
    subst p0 p1 p2 p3 p4
    have hs2 := (unhide HB2).size
    have hb03 := (unhide HB2).trans (hb3.mono hs2)
    have hbt := (unhide H).on hb03
    have y0 := hbt.read.cell (i := 0) (by omega); have y1 := hbt.read.cell (i := 1) (by omega); have y2 := hbt.read.cell (i := 2) (by omega); have y3 := hbt.read.cell (i := 3) (by omega); have y4 := hbt.read.cell (i := 4) (by omega)
    have z0 := hbt.read.frozen 0; have z1 := hbt.read.frozen 1; have z2 := hbt.read.frozen 2; have z3 := hbt.read.frozen 3; have z4 := hbt.read.frozen 4
    simp only [row5, zT] at y0 y1 y2 y3 y4
    have hfin : (∃ c F, Own (set5 w3 (n + 2) ⟨.int .i64 t'.sort, .int .i64 t'.num, .string t'.text, .slice a5 t'.names.length cap5, .slice a6 t'.kids.length cap6⟩) t' c F ∧ F.Nodup ∧ (∀ b, b ∈ F → W.heap.size ≤ b ∧ b < (set5 w3 (n + 2) ⟨.int .i64 t'.sort, .int .i64 t'.num, .string t'.text, .slice a5 t'.names.length cap5, .slice a6 t'.kids.length cap6⟩).heap.size) ∧ Bt w n s c (set5 w3 (n + 2) ⟨.int .i64 t'.sort, .int .i64 t'.num, .string t'.text, .slice a5 t'.names.length cap5, .slice a6 t'.kids.length cap6⟩)) ∧ ∀ i, n + 3 ≤ i → i < W.heap.size → (set5 w3 (n + 2) ⟨.int .i64 t'.sort, .int .i64 t'.num, .string t'.text, .slice a5 t'.names.length cap5, .slice a6 t'.kids.length cap6⟩).heap[i]? = W.heap[i]? := by
      refine ⟨⟨⟨_, _, _, _, _⟩, F, Own.carry t' _ F (fun b hb => set5_heap _ _ _ _ (by have := (hF b hb).1; omega)) ho, hnd, fun b hb => by rw [set5_size]; have := hF b hb; omega, hbt.put⟩, fun i h1 h2 => ?_⟩
      rw [set5_heap _ _ _ _ (by omega)]
      exact hb03.block i h2
    have HFIN := hide hfin
    clear hfin hbt hb03 ho hF hb3 HPL HB2
    go_wp2_with fail
    go_end0
    exact ⟨rfl, unhide HFIN⟩
  · rw [unhide HY] at h1; cases h1

set_option maxRecDepth 100000 in
set_option maxHeartbeats 1600000 in
theorem workT_no (w : World) (n : Nat) (s : ByteArray) (hs : s.size ≤ 1048576) (W : World) (h : Bt w n s zT W) (hE : Env W) (hY : rdO s = none) :
    Calls Tryz.prog 27 #[.pointer (some ⟨n, 0, none⟩), .pointer (some ⟨n + 2, 0, none⟩)] W fun e w' => e = fltE ∧ Bt w n s zT w' ∧ ∀ i, n + 3 ≤ i → i < W.heap.size → w'.heap[i]? = W.heap[i]? := by
  have c0 := h.text
  have HNR := hide (newReader_walk s W)
  have HRP := hide (fun W1 h1 h2 => read_part W s hs hE W1 h1 h2)
  have H := hide h; have HY := hide hY
  clear h hE hY
  go_enter Tryz.func27, Tryz.ntmps27
  go_wp2_with (go_at_call 29; refine (unhide HNR).mono ?_; rintro e w1 ⟨rfl, htr, hb1⟩; have HTR := hide htr; have HB1 := hide hb1; clear htr hb1 HNR)
  refine (unhide HRP w1 (unhide HTR) (unhide HB1)).mono ?_
  rintro e w2 ⟨hb2, ⟨t', q, v, h1, -⟩ | ⟨-, rfl⟩⟩
  · rw [unhide HY] at h1; cases h1
  · have HFIN := hide (And.intro ((unhide H).on hb2) (fun i (_ : n + 3 ≤ i) (h2 : i < W.heap.size) => hb2.block i h2))
    clear hb2 HRP HTR HB1
    go_wp2_with fail
    exact ⟨rfl, rfl, unhide HFIN⟩

set_option maxRecDepth 100000 in
set_option maxHeartbeats 1600000 in
theorem implTreeRead_any (w : World) (s : ByteArray) (hs : s.size ≤ 1048576) (hE : Env w) :
    Calls Tryz.prog 12 #[.string s] w fun e w' => TAns (rdO s) w e w' := by
  obtain ⟨W0, hW0⟩ : ∃ W0, ((w.alloc (.cells #[.string s] 9)).alloc (.cells #[.int .i64 0, .int .i64 0, .string ⟨#[]⟩, .slice none 0 0, .slice none 0 0] 26)).alloc (.cells #[.int .i64 0, .int .i64 0, .string ⟨#[]⟩, .slice none 0 0, .slice none 0 0] 26) = W0 := ⟨_, rfl⟩
  have hbl : Below w.heap.size w W0 := by rw [← hW0]; exact (((Below.refl _ _).alloc (Nat.le_refl _) _).alloc (by simp) _).alloc (by simp; omega) _
  have hs0 : W0.heap.size = w.heap.size + 3 := by rw [← hW0]; simp
  have hbx : Bt w w.heap.size s zT W0 := by
    refine ⟨?_, ?_, ?_, hbl, by omega⟩
    · rw [← hW0]; simp [go_sem]
    · rw [← hW0]
      have q := row5_alloc (w.alloc (.cells #[.string s] 9)) (.int .i64 0) (.int .i64 0) (.string ⟨#[]⟩) (.slice none 0 0) (.slice none 0 0) 26
      rw [World.size_alloc] at q
      exact q.alloc _
    · rw [← hW0]
      have q := row5_alloc ((w.alloc (.cells #[.string s] 9)).alloc (.cells #[.int .i64 0, .int .i64 0, .string ⟨#[]⟩, .slice none 0 0, .slice none 0 0] 26)) (.int .i64 0) (.int .i64 0) (.string ⟨#[]⟩) (.slice none 0 0) (.slice none 0 0) 26
      rw [World.size_alloc, World.size_alloc] at q
      exact q
  have hE0 : Env W0 := hE.below hbl
  have hent : ∀ W, Sem.run Tryz.prog (callFunc 27 #[.pointer (some ⟨w.heap.size, 0, none⟩), .pointer (some ⟨w.heap.size + 2, 0, none⟩)]) W = .ok (.enter 27 #[.pointer (some ⟨w.heap.size, 0, none⟩), .pointer (some ⟨w.heap.size + 2, 0, none⟩)]) W := fun W => enters_of Tryz.func27 (by kernel_rfl) rfl _ W
  have hmf : ∀ (fn : Fn) (first cap : Array Value) (w : World), (Instr.makeFunc fn first cap).run Tryz.prog w = .ok (.func fn first cap) w := fun _ _ _ _ => rfl
  cases hY : rdO s with
  | none =>
    have htry := treeTry_no 27 #[.pointer (some ⟨w.heap.size, 0, none⟩), .pointer (some ⟨w.heap.size + 2, 0, none⟩)] W0 (fun w1 => Bt w w.heap.size s zT w1) hent (fun o => (workT_no w w.heap.size s hs (W0.alloc o) (hbx.kept (World.grownBy_alloc W0 o none) (fun b e => by cases e)) (hE0.below ((Below.refl _ _).alloc (Nat.le_refl _) o)) hY).mono fun e w' ⟨h1, h2, h3⟩ => ⟨h1, h2, h3 _ (by omega) (by rw [World.size_alloc]; omega)⟩)
    have htry2 : Calls Tryz.prog 26 #[.func (.func 27) #[] #[.pointer (some ⟨w.heap.size, 0, none⟩), .pointer (some ⟨w.heap.size + 2, 0, none⟩)]] W0 fun e w' => e = .returned (.bool false) ∧ Bt w w.heap.size s zT w' := htry.mono fun e w' ⟨h1, w1, h2, h3⟩ => ⟨h1, h2.kept h3 (fun b e => by cases e; omega)⟩
    have HTR := hide htry2
    clear htry htry2 hbx hE0 hent hbl hY hE
    go_enter Tryz.func12, Tryz.ntmps12
    go_wp2_with (go_at_call 26
                 refine (unhide HTR).mono ?_
                 rintro e w1 ⟨rfl, hb1⟩
                 have HB1 := hide hb1
                 have a0 := hb1.ans.cell (i := 0) (by omega); have a1 := hb1.ans.cell (i := 1) (by omega); have a2 := hb1.ans.cell (i := 2) (by omega); have a3 := hb1.ans.cell (i := 3) (by omega); have a4 := hb1.ans.cell (i := 4) (by omega)
                 have z0 := hb1.ans.frozen 0; have z1 := hb1.ans.frozen 1; have z2 := hb1.ans.frozen 2; have z3 := hb1.ans.frozen 3; have z4 := hb1.ans.frozen 4
                 have r0 : w1.cell? ⟨w.heap.size + 1 + 1, 0, none⟩ = some (.int .i64 0) := hb1.read.cell (i := 0) (by omega)
                 have r1 : w1.cell? ⟨w.heap.size + 1 + 1, 1, none⟩ = some (.int .i64 0) := hb1.read.cell (i := 1) (by omega)
                 have r2 : w1.cell? ⟨w.heap.size + 1 + 1, 2, none⟩ = some (.string ⟨#[]⟩) := hb1.read.cell (i := 2) (by omega)
                 have r3 : w1.cell? ⟨w.heap.size + 1 + 1, 3, none⟩ = some (.slice none 0 0) := hb1.read.cell (i := 3) (by omega)
                 have r4 : w1.cell? ⟨w.heap.size + 1 + 1, 4, none⟩ = some (.slice none 0 0) := hb1.read.cell (i := 4) (by omega)
                 simp only [row5, zT] at a0 a1 a2 a3 a4
                 clear hb1)
    refine bodyPost_ret (v := .tuple #[.agg #[.int .i64 0, .int .i64 0, .string ByteArray.empty, .slice none 0 0, .slice none 0 0], .bool false]) (by simp [results, Tryz.results12, go_sem, a0, a1, a2, a3, a4]; rfl) rfl ?_
    exact TAns.no rfl (below_set5 (unhide HB1).below _ ⟨_, _, _, _, _⟩ (by omega))
  | some t =>
    have htry := treeTry_yes 27 #[.pointer (some ⟨w.heap.size, 0, none⟩), .pointer (some ⟨w.heap.size + 2, 0, none⟩)] W0 (fun w1 => ∃ c F, Own w1 t c F ∧ F.Nodup ∧ (∀ b, b ∈ F → W0.heap.size + 1 ≤ b ∧ b < w1.heap.size) ∧ Bt w w.heap.size s c w1) hent (fun o => (workT_yes w w.heap.size s hs (W0.alloc o) (hbx.kept (World.grownBy_alloc W0 o none) (fun b e => by cases e)) (hE0.below ((Below.refl _ _).alloc (Nat.le_refl _) o)) hY).mono fun e w' ⟨h1, ⟨c, F, h2, h3, h4, h5⟩, h6⟩ => ⟨h1, ⟨c, F, h2, h3, fun b hb => by have := h4 b hb; rw [World.size_alloc] at this; exact this, h5⟩, h6 _ (by omega) (by rw [World.size_alloc]; omega)⟩)
    have htry2 : Calls Tryz.prog 26 #[.func (.func 27) #[] #[.pointer (some ⟨w.heap.size, 0, none⟩), .pointer (some ⟨w.heap.size + 2, 0, none⟩)]] W0 fun e w1 => ∃ (a5 : Option Addr) (cap5 : Nat) (a6 : Option Addr) (cap6 : Nat) (F : List Nat), e = .returned (.bool true) ∧ Hid (Own w1 t ⟨.int .i64 t.sort, .int .i64 t.num, .string t.text, .slice a5 t.names.length cap5, .slice a6 t.kids.length cap6⟩ F) ∧ F.Nodup ∧ Hid (∀ b, b ∈ F → w.heap.size + 4 ≤ b ∧ b < w1.heap.size) ∧ Bt w w.heap.size s ⟨.int .i64 t.sort, .int .i64 t.num, .string t.text, .slice a5 t.names.length cap5, .slice a6 t.kids.length cap6⟩ w1 := htry.mono (by
      rintro e w' ⟨rfl, w1, ⟨⟨d0, d1, d2, d3, d4⟩, F, ho, hnd, hF, hb⟩, hbut⟩
      obtain ⟨p0, p1, p2, -, -, -, F1, F2, -, ⟨a5, cap5, p3, -⟩, a6, cap6, p4, -⟩ := ho.open
      simp only at p0 p1 p2 p3 p4
      subst p0 p1 p2 p3 p4
      exact ⟨_, _, _, _, F, rfl, Own.carry t _ F (fun b hb' => hbut.at (hF b hb').2 (by have := hF b hb'; omega)) ho, hnd, fun b hb' => by have := hF b hb'; have := hbut.size; omega, hb.kept hbut (fun b e => by cases e; omega)⟩)
    have HTR := hide htry2
    clear htry htry2 hbx hE0 hent hbl hY hE
    go_enter Tryz.func12, Tryz.ntmps12
    go_wp2_with (go_at_call 26
                 refine (unhide HTR).mono ?_
                 rintro e w1 ⟨a5, cap5, a6, cap6, F, rfl, HO, hnd, HF, hb1⟩
                 have HB1 := hide hb1
                 have a0 := hb1.ans.cell (i := 0) (by omega); have a1 := hb1.ans.cell (i := 1) (by omega); have a2 := hb1.ans.cell (i := 2) (by omega); have a3 := hb1.ans.cell (i := 3) (by omega); have a4 := hb1.ans.cell (i := 4) (by omega)
                 have z0 := hb1.ans.frozen 0; have z1 := hb1.ans.frozen 1; have z2 := hb1.ans.frozen 2; have z3 := hb1.ans.frozen 3; have z4 := hb1.ans.frozen 4
                 have r0 : w1.cell? ⟨w.heap.size + 1 + 1, 0, none⟩ = some (.int .i64 t.sort) := hb1.read.cell (i := 0) (by omega)
                 have r1 : w1.cell? ⟨w.heap.size + 1 + 1, 1, none⟩ = some (.int .i64 t.num) := hb1.read.cell (i := 1) (by omega)
                 have r2 : w1.cell? ⟨w.heap.size + 1 + 1, 2, none⟩ = some (.string t.text) := hb1.read.cell (i := 2) (by omega)
                 have r3 : w1.cell? ⟨w.heap.size + 1 + 1, 3, none⟩ = some (.slice a5 t.names.length cap5) := hb1.read.cell (i := 3) (by omega)
                 have r4 : w1.cell? ⟨w.heap.size + 1 + 1, 4, none⟩ = some (.slice a6 t.kids.length cap6) := hb1.read.cell (i := 4) (by omega)
                 simp only [row5, zT] at a0 a1 a2 a3 a4
                 clear hb1)
    refine bodyPost_ret (v := .tuple #[.agg #[.int .i64 t.sort, .int .i64 t.num, .string t.text, .slice a5 t.names.length cap5, .slice a6 t.kids.length cap6], .bool true]) (by simp [results, Tryz.results12, go_sem, a0, a1, a2, a3, a4]) rfl ?_
    refine ⟨t, true, ⟨_, _, _, _, _⟩, F, Or.inl ⟨rfl, rfl⟩, rfl, Own.carry t _ F (fun b hb => set5_heap w1 (w.heap.size + 1) ⟨_, _, _, _, _⟩ b (by have := (unhide HF b hb).1; omega)) (unhide HO), hnd, fun b hb => ?_, below_set5 (unhide HB1).below _ ⟨_, _, _, _, _⟩ (by omega)⟩
    have h2 := set5_size w1 (w.heap.size + 1) ⟨.int .i64 t.sort, .int .i64 t.num, .string t.text, .slice a5 t.names.length cap5, .slice a6 t.kids.length cap6⟩
    unfold set5 at h2
    simp only at h2
    rw [h2]
    have := unhide HF b hb
    omega
end Go.Proofs.YtgamonfmgngilaaGreatDoor

/- The walk of the specification's reader, further: text. For texts of at most 2^20 bytes. -/

namespace Go.Proofs.YtgamonfmgngilaaGreatDoor
open Go Go.RowKit


def nqt (c : UInt8) : Bool := c != 34
def q34 : ByteArray := ⟨#[34]⟩

set_option maxRecDepth 100000 in
set_option maxHeartbeats 800000 in
theorem text_run_any (w : World) (R : Nat) (s : ByteArray) (at' : Nat) (hs : s.size ≤ 1048576) (h : Rdr w R s at' false) (ha : at' < s.size) (h34 : s[at'].toNat = 34) :
    Calls Tryz.prog 69 #[.pointer (some ⟨R, 0, none⟩)] w fun e w' => e = .returned (.string ⟨((lf s (at' + 1)).takeWhile nqt).toArray⟩) ∧ But R w w' ∧
      (pre q34 s (at' + 1 + rn nqt s (at' + 1)) = true → Rdr w' R s (at' + 1 + rn nqt s (at' + 1) + 1) false) ∧ (pre q34 s (at' + 1 + rn nqt s (at' + 1)) = false → Rdr w' R s (at' + 1 + rn nqt s (at' + 1)) true) := by
  have H := hide h
  have hp : pre q34 s at' = true := by
    unfold pre
    rw [lf_cons ha, show s[at'] = 34 from UInt8.toNat_inj.1 h34]
    rfl
  have HEAT : Hid (Calls Tryz.prog 37 #[.pointer (some ⟨R, 0, none⟩), .string q34] w fun e w' => e = .returned (.tuple #[]) ∧ Rdr w' R s (at' + 1) false ∧ But R w w') := hide (eat_yes w R s q34 at' false hs h (by omega) (by decide) (by decide) hp)
  have hle := rn_le nqt s (at' + 1) (by omega)
  rw [← rn_take]
  generalize hb0 : at' + 1 = b0 at *
  have hle0 : b0 ≤ b0 + rn nqt s b0 := by omega
  generalize hen : b0 + rn nqt s b0 = en at *
  have HR := hide hen
  have hi0 : (0 : Int) ≤ (b0 : Int) := by omega
  have hi1 : (b0 : Int) ≤ (en : Int) := by omega
  have hi2 : (en : Int) ≤ (s.size : Int) := by omega
  clear h hp hen hb0 h34 ha
  go_enter Tryz.func69, Tryz.ntmps69
  go_wp2_with (go_at_call 37; refine (unhide HEAT).mono ?_; rintro e w1 ⟨rfl, hr1, hb1⟩; have HR1 := hide hr1; have HB1 := hide hb1; obtain ⟨c0, c1, c2, f1, f2⟩ := hr1.cells; clear hr1 hb1)
  go_loopw [] (fun wr => ∃ (j : Nat), b0 ≤ j ∧ j ≤ s.size ∧ Hid (j + rn nqt s j = en) ∧ Hid (Rdr wr R s j false) ∧ But R w wr) (fun wr => s.size - atOf wr R)
  case atStart => exact ⟨b0, Nat.le_refl _, by omega, HR, HR1, HB1⟩
  case round =>
    obtain ⟨j, hj0, hj1, HJ, HRj, hb⟩ := hrel
    obtain ⟨y0, y1, y2, g1, g2⟩ := HRj.out.cells
    have hat := HRj.out.atOf
    clear c0 c1 c2 f1 f2 HR1 HB1 HEAT HR H
    by_cases hlt : j < s.size
    · have hd : decide ((j : Int) < (s.size : Int)) = true := by simp; omega
      by_cases hq : s[j].toNat = 34
      · have hst := rn_stop (p := nqt) hlt (by unfold nqt; rw [show s[j] = 34 from UInt8.toNat_inj.1 hq]; rfl)
        obtain rfl : en = j := by have := HJ.out; omega
        have hpr : pre q34 s en = true := by
          unfold pre
          rw [lf_cons hlt, show s[en] = 34 from UInt8.toNat_inj.1 hq]
          rfl
        have hb34 : ((s[en].toNat : Int) == 34) = true := by simp; omega
        have HPR := hide hpr; have HQ := hide hq
        clear hst hpr hq
        go_wp2_with fail
        go_quiet (fail)
        go_wp2_with fail
        refine (eat_yes _ R s q34 (en) false hs (HRj.out.heap (by rfl)) (by omega) (by decide) (by decide) HPR.out).mono ?_
        rintro e w2 ⟨rfl, hr2, hb2⟩
        have HR2 := hide hr2; have HB2 := hide hb2
        obtain ⟨z0, z1, z2, -, -⟩ := hr2.cells
        clear hr2 hb2
        go_wp2_with fail
        go_ret
        exact ⟨rfl, (but_drewN hb _).trans HB2.out, fun _ => HR2.out, fun h => by rw [HPR.out] at h; cases h⟩
      · have hst := rn_step (p := nqt) hlt (by unfold nqt; rw [bne_iff_ne]; intro e; apply hq; rw [e]; rfl)
        have HJ2 : Hid (j + 1 + rn nqt s (j + 1) = en) := by have := HJ.out; show _ = _; omega
        have hb34 : ((s[j].toNat : Int) == 34) = false := by simp; omega
        clear hst hq
        go_wp2_with fail
        go_quiet (fail)
        go_wp2_with fail
        go_roundw
        case rel => exact ⟨j + 1, by omega, by omega, HJ2, hide ((HRj.out.heap rfl).set1 _), (but_drewN hb _).trans (But.set _ _ _)⟩
        case measure => rw [hat]; exact Rdr.meas ((HRj.out.heap rfl).set1 (j + 1)) (by omega) (by omega)
    · have hst := rn_end (p := nqt) (s := s) (i := j) (by omega)
      obtain rfl : en = j := by have := HJ.out; omega
      have hpr : pre q34 s en = false := by
        unfold pre
        rw [lf_nil (by omega)]
        rfl
      have hd : decide ((en : Int) < (s.size : Int)) = false := by simp; omega
      have HPR := hide hpr
      clear hst hpr
      go_wp2_with fail
      go_quiet (fail)
      go_wp2_with fail
      refine (eat_no _ R s q34 (en) false hs (HRj.out.heap (by rfl)) (by omega) (by decide) (by decide) HPR.out).mono ?_
      rintro e w2 ⟨rfl, hr2, hb2⟩
      have HR2 := hide hr2; have HB2 := hide hb2
      obtain ⟨z0, z1, z2, -, -⟩ := hr2.cells
      clear hr2 hb2
      go_wp2_with fail
      go_ret
      exact ⟨rfl, (but_drewN hb _).trans HB2.out, (fun h => by rw [HPR.out] at h; cases h), fun _ => HR2.out⟩
end Go.Proofs.YtgamonfmgngilaaGreatDoor
