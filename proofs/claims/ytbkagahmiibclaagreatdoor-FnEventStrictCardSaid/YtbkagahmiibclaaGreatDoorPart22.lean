/- A part. -/
import Derived.Laws.EntriesVeiled
import Derived.Test.YtbkagahmiibclaaGreatDoorPart21
import Derived.Test.YtbkagahmiibclaaGreatDoorPart16
namespace Go.Proofs.YtbkagahmiibclaaGreatDoor
open Go Go.RowKit
set_option maxRecDepth 100000
set_option maxHeartbeats 1600000
theorem zeroTR : Tryz.zeroCells108 = #[.int .i64 0, .int .i64 0, .string ByteArray.empty, .int .i64 0] ++ Array.replicate 256 .nilFunc := by kernel_rfl
def f0 (s : ByteArray) (i : Nat) : Value := if i = 2 then .string s else if i < 4 then .int .i64 0 else .nilFunc
theorem row0 (w : World) (s : ByteArray) : (w.alloc (.cells ((Tryz.zeroCells108.setIfInBounds 2 (.string s)).setIfInBounds 3 (.int .i64 0)) 108)).rowIs w.heap.size 108 260 (f0 s) := by
 have h := World.rowIs_alloc w ((Tryz.zeroCells108.setIfInBounds 2 (.string s)).setIfInBounds 3 (.int .i64 0)) 108 (f0 s) (fun i hi => by
  rw [zeroTR] at hi ⊢
  simp only [Array.size_setIfInBounds, Array.size_append, Array.size_replicate] at hi
  rw [Array.getElem?_setIfInBounds, Array.getElem?_setIfInBounds]
  have hsz : (#[Value.int .i64 0, .int .i64 0, .string ByteArray.empty, .int .i64 0] : Array Value).size = 4 := rfl
  rw [hsz] at hi
  by_cases h3 : 3 = i
  · subst h3; simp [f0]
  · rw [if_neg h3]
    by_cases h2 : 2 = i
    · subst h2; simp [f0]
    · rw [if_neg h2]
      by_cases h4 : i < 4
      · have hi2 : i = 0 ∨ i = 1 := by omega
        rcases hi2 with rfl | rfl <;> simp [f0]
      · rw [Array.getElem?_append_right (by rw [hsz]; omega), hsz]
        simp only [f0]
        rw [if_neg (by omega), if_neg h4, Array.getElem?_replicate, if_pos (by omega)])
 have e : ((Tryz.zeroCells108.setIfInBounds 2 (.string s)).setIfInBounds 3 (.int .i64 0)).size = 260 := by
  rw [Array.size_setIfInBounds, Array.size_setIfInBounds, zeroTR]; simp
 rw [e] at h
 exact h
theorem TR.of_row {W : World} {N : Nat} {s : ByteArray} {a : Nat} {p l : Int} {f : Nat → Value} (h : W.rowIs N 108 260 f) (h0 : f 0 = .int .i64 p) (h1 : f 1 = .int .i64 l) (h2 : f 2 = .string s) (h3 : f 3 = .int .i64 a) (h4 : ∀ i, i < 256 → f (4 + i) = srt N i) : TR W N s a p l :=
 ⟨⟨by rw [h.cell (by omega), h0], by rw [h.cell (by omega), h1], h.frozen 0, h.frozen 1⟩, ⟨by rw [h.cell (by omega), h2], by rw [h.cell (by omega), h3], h.frozen 3⟩, fun i hi => by rw [h.cell (by omega), h4 i hi]⟩
theorem row_end {W : World} {N : Nat} {s : ByteArray} (h : W.rowIs N 108 260 (fun j => if 52 ≤ j ∧ j < 4 + 58 then .func (.func 98) #[.pointer (some ⟨N, 0, none⟩)] #[] else f0 s j)) :
 TR ((((((((W.setCell ⟨N, 49, none⟩ (.func (.func 98) #[.pointer (some ⟨N, 0, none⟩)] #[])).setCell ⟨N, 38, none⟩ (.func (.func 99) #[.pointer (some ⟨N, 0, none⟩)] #[])).setCell ⟨N, 125, none⟩ (.func (.func 100) #[.pointer (some ⟨N, 0, none⟩)] #[])).setCell ⟨N, 114, none⟩ (.func (.func 100) #[.pointer (some ⟨N, 0, none⟩)] #[])).setCell ⟨N, 95, none⟩ (.func (.func 101) #[.pointer (some ⟨N, 0, none⟩)] #[])).setCell ⟨N, 127, none⟩ (.func (.func 102) #[.pointer (some ⟨N, 0, none⟩)] #[])).setCell ⟨N, 130, none⟩ (.func (.func 103) #[.pointer (some ⟨N, 0, none⟩)] #[])).setCell ⟨N, 67, none⟩ (.func (.func 103) #[.pointer (some ⟨N, 0, none⟩)] #[])) N s 0 0 0 := by
 have h8 := ((((((((h.set 49 (.func (.func 98) #[.pointer (some ⟨N, 0, none⟩)] #[])).set 38 (.func (.func 99) #[.pointer (some ⟨N, 0, none⟩)] #[])).set 125 (.func (.func 100) #[.pointer (some ⟨N, 0, none⟩)] #[])).set 114 (.func (.func 100) #[.pointer (some ⟨N, 0, none⟩)] #[])).set 95 (.func (.func 101) #[.pointer (some ⟨N, 0, none⟩)] #[])).set 127 (.func (.func 102) #[.pointer (some ⟨N, 0, none⟩)] #[])).set 130 (.func (.func 103) #[.pointer (some ⟨N, 0, none⟩)] #[])).set 67 (.func (.func 103) #[.pointer (some ⟨N, 0, none⟩)] #[]))
 refine TR.of_row h8 (by simp [f0]) (by simp [f0]) (by simp [f0]) (by simp [f0]) (fun i hi => ?_)
 clear h8 h
 unfold srt
 by_cases e1 : i = 63
 · subst e1; simp
 by_cases e2 : i = 126
 · subst e2; simp
 by_cases e3 : i = 123
 · subst e3; simp
 by_cases e4 : i = 91
 · subst e4; simp
 by_cases e5 : i = 110
 · subst e5; simp
 by_cases e6 : i = 121
 · subst e6; simp
 by_cases e7 : i = 34
 · subst e7; simp
 by_cases e8 : i = 45
 · subst e8; simp
 rw [if_neg (by omega), if_neg (by omega), if_neg (by omega), if_neg (by omega), if_neg (by omega), if_neg (by omega), if_neg (by omega), if_neg (by omega)]
 by_cases e9 : 48 ≤ i ∧ i ≤ 57
 · rw [if_pos (by omega), if_pos (Or.inl e9)]
 · rw [if_neg (by omega), if_neg (by omega), if_neg e7, if_neg (by omega), if_neg e4, if_neg e3, if_neg (by omega)]
   unfold f0
   rw [if_neg (by omega), if_neg (by omega)]
theorem below_end {w W : World} {N : Nat} (hb : Below N w W) : Below N w ((((((((W.setCell ⟨N, 49, none⟩ (.func (.func 98) #[.pointer (some ⟨N, 0, none⟩)] #[])).setCell ⟨N, 38, none⟩ (.func (.func 99) #[.pointer (some ⟨N, 0, none⟩)] #[])).setCell ⟨N, 125, none⟩ (.func (.func 100) #[.pointer (some ⟨N, 0, none⟩)] #[])).setCell ⟨N, 114, none⟩ (.func (.func 100) #[.pointer (some ⟨N, 0, none⟩)] #[])).setCell ⟨N, 95, none⟩ (.func (.func 101) #[.pointer (some ⟨N, 0, none⟩)] #[])).setCell ⟨N, 127, none⟩ (.func (.func 102) #[.pointer (some ⟨N, 0, none⟩)] #[])).setCell ⟨N, 130, none⟩ (.func (.func 103) #[.pointer (some ⟨N, 0, none⟩)] #[])).setCell ⟨N, 67, none⟩ (.func (.func 103) #[.pointer (some ⟨N, 0, none⟩)] #[])) := ((((((((hb.setCell (p := ⟨N, 49, none⟩) (Nat.le_refl N) (.func (.func 98) #[.pointer (some ⟨N, 0, none⟩)] #[])).setCell (p := ⟨N, 38, none⟩) (Nat.le_refl N) (.func (.func 99) #[.pointer (some ⟨N, 0, none⟩)] #[])).setCell (p := ⟨N, 125, none⟩) (Nat.le_refl N) (.func (.func 100) #[.pointer (some ⟨N, 0, none⟩)] #[])).setCell (p := ⟨N, 114, none⟩) (Nat.le_refl N) (.func (.func 100) #[.pointer (some ⟨N, 0, none⟩)] #[])).setCell (p := ⟨N, 95, none⟩) (Nat.le_refl N) (.func (.func 101) #[.pointer (some ⟨N, 0, none⟩)] #[])).setCell (p := ⟨N, 127, none⟩) (Nat.le_refl N) (.func (.func 102) #[.pointer (some ⟨N, 0, none⟩)] #[])).setCell (p := ⟨N, 130, none⟩) (Nat.le_refl N) (.func (.func 103) #[.pointer (some ⟨N, 0, none⟩)] #[])).setCell (p := ⟨N, 67, none⟩) (Nat.le_refl N) (.func (.func 103) #[.pointer (some ⟨N, 0, none⟩)] #[]))
theorem newReader_walk (s : ByteArray) (w : World) :
 Calls Tryz.prog 70 #[.string s] w fun e w' => e = .returned (.pointer (some ⟨w.heap.size, 0, none⟩)) ∧ TR w' w.heap.size s 0 0 0 ∧ Below w.heap.size w w' := by
 have hmf : ∀ (fn : Fn) (first cap : Array Value) (w : World), (Instr.makeFunc fn first cap).run Tryz.prog w = .ok (.func fn first cap) w := fun _ _ _ _ => rfl
 have HR0 := hH (row0 w s)
 have HB0 := hH ((Below.refl w.heap.size w).alloc (Nat.le_refl _) (.cells ((Tryz.zeroCells108.setIfInBounds 2 (.string s)).setIfInBounds 3 (.int .i64 0)) 108))
 go_enter Tryz.func70, Tryz.ntmps70
 go_wp2_with fail
 generalize w.alloc (.cells ((Tryz.zeroCells108.setIfInBounds 2 (.string s)).setIfInBounds 3 (.int .i64 0)) 108) = W0 at *
 generalize hN : w.heap.size = N at *
 go_loopw [4] (fun d wr => ∃ k : Nat, 48 ≤ k ∧ k ≤ 58 ∧ d = .int .i32 k ∧ Hid (wr.rowIs N 108 260 (fun j => if 52 ≤ j ∧ j < 4 + k then .func (.func 98) #[.pointer (some ⟨N, 0, none⟩)] #[] else f0 s j)) ∧ Hid (Below N w wr)) (fun d _ => 58 - (intOf d).toNat)
 case atStart => exact ⟨48, Nat.le_refl _, by omega, rfl, hH ((uh HR0).congr (fun i hi => by rw [if_neg (by omega)])), HB0⟩
 case round =>
  obtain ⟨k, hk0, hk1, rfl, HR, HB⟩ := hrel
  have hfz : ∀ i, wr.frozen? ⟨N, i, none⟩ = false := fun i => HR.out.frozen i
  by_cases hlt : k < 58
  · have hc := HR.out.cell (i := 4 + k) (by omega)
    simp only [f0] at hc
    rw [if_neg (by omega), if_neg (by omega), if_neg (by omega)] at hc
    have hf := hfz (4 + k)
    have hdl : decide ((k : Int) ≤ 57) = true := by simp; omega
    have hrow : (wr.setCell ⟨N, 4 + k, none⟩ (.func (.func 98) #[.pointer (some ⟨N, 0, none⟩)] #[])).rowIs N 108 260 (fun j => if 52 ≤ j ∧ j < 4 + (k + 1) then .func (.func 98) #[.pointer (some ⟨N, 0, none⟩)] #[] else f0 s j) := by
     refine (HR.out.set (4 + k) _).congr fun j hj => ?_
     by_cases e : j = 4 + k
     · rw [if_pos e, if_pos (by omega)]
     · rw [if_neg e]
       by_cases e2 : 52 ≤ j ∧ j < 4 + k
       · rw [if_pos e2, if_pos (by omega)]
       · rw [if_neg e2, if_neg (by omega)]
    have HROW := hH hrow
    have HBB := hH (HB.out.setCell (p := ⟨N, 4 + k, none⟩) (Nat.le_refl N) (.func (.func 98) #[.pointer (some ⟨N, 0, none⟩)] #[]))
    clear hfz hrow
    go_wp2_with fail
    go_roundw
    case rel => exact ⟨k + 1, by omega, by omega, by go_num, HROW, HBB⟩
    case measure => simp [intOf]; omega
  · obtain rfl : k = 58 := by omega
    have hdl : decide (((58 : Nat) : Int) ≤ 57) = false := by decide
    have hc1 := HR.out.cell (i := 49) (by omega); have hc2 := HR.out.cell (i := 38) (by omega); have hc3 := HR.out.cell (i := 125) (by omega); have hc4 := HR.out.cell (i := 114) (by omega)
    have hc5 := HR.out.cell (i := 95) (by omega); have hc6 := HR.out.cell (i := 127) (by omega); have hc7 := HR.out.cell (i := 130) (by omega); have hc8 := HR.out.cell (i := 67) (by omega)
    simp [f0] at hc1 hc2 hc3 hc4 hc5 hc6 hc7 hc8
    have hz1 := hfz 49; have hz2 := hfz 38; have hz3 := hfz 125; have hz4 := hfz 114; have hz5 := hfz 95; have hz6 := hfz 127; have hz7 := hfz 130; have hz8 := hfz 67
    have HTE := hH (row_end HR.out); have HBE := hH (below_end (N := N) HB.out)
    clear hfz
    go_wp2_with fail
    go_ret
    subst hN
    exact ⟨rfl, uh HTE, uh HBE⟩

theorem enterEvRead (caps : Array Value) (W : World) : Sem.run Tryz.prog (callFunc 39 caps) W = .ok (.enter 39 caps) W := by
 kernel_rfl
theorem newEvReader_walk (s : ByteArray) (w : World) :
 Calls Tryz.prog 40 #[.string s] w fun e w' => e = .returned (.agg #[.pointer (some ⟨w.heap.size + 1, 0, none⟩)]) ∧ TR w' (w.heap.size + 1) s 0 0 0 ∧ Below w.heap.size w w' := by
 obtain ⟨W1, hW1⟩ : ∃ W1, w.alloc (.cells #[.pointer none] 63) = W1 := ⟨_, rfl⟩
 have hb1 : Below w.heap.size w W1 := by rw [← hW1]; exact (Below.refl _ _).alloc (Nat.le_refl _) _
 have hs1 : W1.heap.size = w.heap.size + 1 := by rw [← hW1]; simp
 have r1 : W1.rowIs w.heap.size 63 1 (fun _ => .pointer none) := by
  rw [← hW1]
  exact World.rowIs_alloc w #[.pointer none] _ _ (fun i hi => by
   have hi' : i < 1 := hi
   match i, hi' with
   | 0, _ => rfl)
 have HN := hH (newReader_walk s W1)
 have HR1 := hH r1; have HB1 := hH hb1
 rw [hs1] at HN
 clear r1 hb1
 go_enter Tryz.func40, Tryz.ntmps40
 go_wp2_with (go_at_call 70
              refine (uh HN).mono ?_
              rintro e w2 ⟨rfl, ht2, hb2⟩
              have hr2 := (uh HR1).of_block (hb2.block _ (by omega))
              have y0 := hr2.cell (i := 0) (by omega)
              have yf := hr2.frozen 0
              have HT2 := hH ht2; have HB2 := hH ((uh HB1).trans (hb2.mono (by omega)))
              have HR2 := hH hr2
              clear ht2 hb2 hr2)
 have hc := ((uh HR2).set 0 (.pointer (some ⟨w.heap.size + 1, 0, none⟩))).cell (i := 0) (by omega)
 simp only [if_true] at hc
 refine bodyPost_ret (v := .agg #[.pointer (some ⟨w.heap.size + 1, 0, none⟩)]) (by simp [results, Tryz.results40, go_sem, hc]) rfl ?_
 exact ⟨rfl, (uh HT2).of_block (Below.heap_setCell _ _ _ _ (by simp)), (uh HB2).setCell (Nat.le_refl _) _⟩
structure RbAt (X : Nat) (w : World) (s : ByteArray) : Prop where
 box : w.rowIs X 9 1 (fun _ => .string s)
 rd : w.rowIs (X + 2) 28 7 (row7 (.string ⟨#[]⟩) (.int .i64 0) (.int .i64 0) (.int .i64 0) (.string ⟨#[]⟩) (.slice none 0 0) (.slice none 0 0))
theorem rdWork (X : Nat) (w : World) (s : ByteArray) (hs : s.size ≤ 1048576) (h : RbAt X w s) (hE : Env w) (hT : Tab w) :
 Calls Tryz.prog 39 #[.pointer (some ⟨X, 0, none⟩), .pointer (some ⟨X + 2, 0, none⟩)] w fun e w' =>
  ((∃ (ty : ByteArray) (ver : Int) (t : Tr) (c : C5) (F : List Nat), e = .returned (.tuple #[]) ∧ w'.rowIs (X + 2) 28 7 (row7 (.string ty) (.int .i64 ver) c.c0 c.c1 c.c2 c.c3 c.c4) ∧ Own w' t c F ∧ F.Nodup ∧ (∀ x, x ∈ F → w.heap.size ≤ x ∧ x < w'.heap.size) ∧ EvR s.data.toList ty ver t) ∨ (e = fltE ∧ (∀ ty ver t, ¬ EvR s.data.toList ty ver t) ∧ w'.heap[X + 2]? = w.heap[X + 2]?)) ∧ But (X + 2) w w' := by
 have x0 := h.box.cell (i := 0) (by omega)
 have hlt := h.rd.lt
 have htop := hE.top
 have hTl := hT.lt
 have HNR := hH (newEvReader_walk s w)
 have HW := hH (fun (W1 : World) (h1 : TR W1 (w.heap.size + 1) s 0 0 0) (h2 : Below w.heap.size w W1) => wholeE_any W1 (w.heap.size + 1) s hs h1 (hE.below h2) (hT.of_block (h2.block _ hTl)) (by omega) (by omega))
 have HRD := hH h.rd
 clear h hE hT
 go_enter Tryz.func39, Tryz.ntmps39
 go_wp2_with (go_at_call 40; refine (uh HNR).mono ?_; rintro e w0 ⟨rfl, ht0, hb0⟩; have HT0 := hH ht0; have HB0 := hH hb0; clear ht0 hb0 HNR)
 refine (uh HW w0 (uh HT0) (uh HB0)).mono ?_
 rintro e w1 ⟨hb1, hc⟩
 have hb0 := uh HB0
 have hs0 := hb0.size
 have hbw : Below w.heap.size w w1 := ⟨hb1.os.trans hb0.os, hb1.tape.trans hb0.tape, hb1.output.trans hb0.output, Nat.le_trans hs0 hb1.size, fun i hi => (hb1.at (by omega) (by omega)).trans (hb0.block i hi)⟩
 have hrd1 := (uh HRD).of_block (hbw.block _ hlt)
 rcases hc with ⟨ty, ver, t, ⟨c0, c1, c2, c3, c4⟩, F, rfl, ho, hnd, hF, hu⟩ | ⟨rfl, hno⟩
 · obtain ⟨g0, g1, g2, -, -, -, F1, F2, -, ⟨ap, cp, g3, -⟩, aq, cq, g4, -⟩ := ho.open
   simp only at g0 g1 g2 g3 g4
   subst g0 g1 g2 g3 g4
   obtain ⟨p0, p1, p2, p3, p4, p5, p6⟩ := cs7 hrd1 (by omega); have pf := hrd1.frozen
   simp only [row7] at p0 p1 p2 p3 p4 p5 p6
   have HR1 := hH hrd1; have HBW := hH hbw; have HO := hH ho; have HF := hH hF; have HU := hH hu
   clear hrd1 hbw ho hF hb1 HW HRD hu hb0 HB0 HT0
   go_wp2_with fail
   go_end0
   have hsz := (uh HBW).size
   refine ⟨Or.inl ⟨ty, ver, t, ⟨.int .i64 t.sort, .int .i64 t.num, .string t.text, .slice ap t.names.length cp, .slice aq t.kids.length cq⟩, F, rfl, ?_, Own.carry _ _ F (fun y hy => ?_) (uh HO), hnd, fun y hy => ⟨by have := (uh HF y hy).1; omega, by simp only [World.size_setCell]; exact (uh HF y hy).2⟩, uh HU⟩, ?_⟩
   · have := (((((((uh HR1).set 0 (.string ty)).set 1 (.int .i64 ver)).set 2 (.int .i64 t.sort)).set 3 (.int .i64 t.num)).set 4 (.string t.text)).set 5 (.slice ap t.names.length cp)).set 6 (.slice aq t.kids.length cq)
     exact this.congr (fun i hi => by rcases (show i = 0 ∨ i = 1 ∨ i = 2 ∨ i = 3 ∨ i = 4 ∨ i = 5 ∨ i = 6 by omega) with rfl | rfl | rfl | rfl | rfl | rfl | rfl <;> rfl)
   · have := (uh HF y hy).1
     repeat rw [Below.heap_setCell _ _ _ _ (by simp <;> omega)]
   · refine (But.of_below (uh HBW)).trans ?_
     exact (((((((But.set (B := X + 2) w1 0 _).trans (But.set _ 1 _)).trans (But.set _ 2 _)).trans (But.set _ 3 _)).trans (But.set _ 4 _)).trans (But.set _ 5 _)).trans (But.set _ 6 _))
 · exact ⟨rfl, Or.inr ⟨rfl, hno, hbw.block _ hlt⟩, But.of_below hbw⟩
def ErEnd (w w' : World) (s : ByteArray) (e : Ending) : Prop :=
 Below w.heap.size w w' ∧ ((∃ (ty : ByteArray) (ver : Int) (t : Tr) (c : C5) (F : List Nat), e = .returned (.tuple #[.agg #[.string ty, .int .i64 ver, c.c0, c.c1, c.c2, c.c3, c.c4], .bool true]) ∧ Own w' t c F ∧ F.Nodup ∧ (∀ x, x ∈ F → w.heap.size ≤ x ∧ x < w'.heap.size) ∧ EvR s.data.toList ty ver t)
  ∨ (e = .returned (.tuple #[.agg #[.string ⟨#[]⟩, .int .i64 0, .int .i64 0, .int .i64 0, .string ⟨#[]⟩, .slice none 0 0, .slice none 0 0], .bool false]) ∧ ∀ ty ver t, ¬ EvR s.data.toList ty ver t))
theorem rb_start (w : World) (s : ByteArray) : RbAt w.heap.size (((w.alloc (.cells #[.string s] 9)).alloc evZ).alloc evZ) s := by
 have h1 : (w.alloc (.cells #[.string s] 9)).rowIs w.heap.size 9 1 (fun _ => .string s) := World.rowIs_alloc w #[.string s] _ _ (fun i hi => by
  have hi' : i < 1 := hi
  match i, hi' with
  | 0, _ => rfl)
 refine ⟨(h1.alloc _).alloc _, ?_⟩
 have := row7_alloc ((w.alloc (.cells #[.string s] 9)).alloc evZ) (.string ⟨#[]⟩) (.int .i64 0) (.int .i64 0) (.int .i64 0) (.string ⟨#[]⟩) (.slice none 0 0) (.slice none 0 0) 28
 rw [World.size_alloc, World.size_alloc] at this
 exact this
theorem RbAt.on {X : Nat} {w w' : World} {s : ByteArray} (h : RbAt X w s) (hb : Below w.heap.size w w') : RbAt X w' s :=
 ⟨h.box.of_block (hb.block _ h.box.lt), h.rd.of_block (hb.block _ h.rd.lt)⟩
theorem implEventRead_any (w : World) (s : ByteArray) (hs : s.size ≤ 1048576) (hE : Env w) (hT : Tab w) :
 Calls Tryz.prog 13 #[.string s] w fun e w' => ErEnd w w' s e := by
 have hmf : ∀ (fn : Fn) (first cap : Array Value) (w : World), (Instr.makeFunc fn first cap).run Tryz.prog w = .ok (.func fn first cap) w := fun _ _ _ _ => rfl
 have hub := rb_start w s
 have hb3 : Below w.heap.size w (((w.alloc (.cells #[.string s] 9)).alloc evZ).alloc evZ) := (((Below.refl _ _).alloc (Nat.le_refl _) _).alloc (by simp) _).alloc (by simp; omega) _
 have hX1 : (((w.alloc (.cells #[.string s] 9)).alloc evZ).alloc evZ).rowIs (w.heap.size + 1) 28 7 (row7 (.string ⟨#[]⟩) (.int .i64 0) (.int .i64 0) (.int .i64 0) (.string ⟨#[]⟩) (.slice none 0 0) (.slice none 0 0)) := by
  have := (row7_alloc (w.alloc (.cells #[.string s] 9)) (.string ⟨#[]⟩) (.int .i64 0) (.int .i64 0) (.int .i64 0) (.string ⟨#[]⟩) (.slice none 0 0) (.slice none 0 0) 28).alloc evZ
  rw [World.size_alloc] at this
  exact this
 have hsz3 : (((w.alloc (.cells #[.string s] 9)).alloc evZ).alloc evZ).heap.size = w.heap.size + 3 := by simp
 have hEW := hE.below hb3
 have hTW := hT.of_block (hb3.block 1 hT.lt)
 have hwork := fun (o : Obj) => rdWork w.heap.size ((((w.alloc (.cells #[.string s] 9)).alloc evZ).alloc evZ).alloc o) s hs (hub.on ((Below.refl _ _).alloc (Nat.le_refl _) o)) (hEW.below ((Below.refl _ _).alloc (Nat.le_refl _) o)) (hTW.of_block (Below.heap_alloc _ _ _ hTW.lt))
 by_cases hex : ∃ ty ver t, EvR s.data.toList ty ver t
 · have htry := treeTry_yes2 39 #[.pointer (some ⟨w.heap.size, 0, none⟩), .pointer (some ⟨w.heap.size + 2, 0, none⟩)] (((w.alloc (.cells #[.string s] 9)).alloc evZ).alloc evZ)
    (fun w1 => ∃ (ty : ByteArray) (ver : Int) (t : Tr) (c : C5) (F : List Nat), w1.rowIs (w.heap.size + 2) 28 7 (row7 (.string ty) (.int .i64 ver) c.c0 c.c1 c.c2 c.c3 c.c4) ∧ Own w1 t c F ∧ F.Nodup ∧ (∀ x, x ∈ F → w.heap.size + 4 ≤ x ∧ x < w1.heap.size) ∧ EvR s.data.toList ty ver t ∧ But (w.heap.size + 2) ((((w.alloc (.cells #[.string s] 9)).alloc evZ).alloc evZ).alloc (.cells #[.bool false] 4)) w1)
    (enterEvRead _) (by
      refine (hwork (.cells #[.bool false] 4)).mono ?_
      rintro e w1 ⟨hc, hb1⟩
      rcases hc with ⟨ty, ver, t, c, F, rfl, h1, h2, h3, h4, h5⟩ | ⟨-, hno, -⟩
      · refine ⟨rfl, ⟨ty, ver, t, c, F, h1, h2, h3, fun x hx => ⟨by have := (h4 x hx).1; rw [World.size_alloc, hsz3] at this; omega, (h4 x hx).2⟩, h5, hb1⟩, ?_⟩
        exact hb1.at (by simp) (by rw [hsz3]; omega)
      · obtain ⟨ty, ver, t, hu⟩ := hex
        exact absurd hu (hno ty ver t))
   have HTRY := hH htry; have HB3 := hH hb3; have HX1 := hH hX1; have HS3 := hH hsz3
   clear htry hwork hub hb3 hX1 hTW hT hE hEW hsz3 hex
   go_enter Tryz.func13, Tryz.ntmps13
   go_wp2_with fail
   refine (uh HTRY).mono ?_
   rintro e w4 ⟨rfl, w1, ⟨ty, ver, t, ⟨c0, c1, c2, c3, c4⟩, F, hrd, ho, hnd, hF, hu, hb1⟩, hb4⟩
   have hsz := uh HS3
   have hs1 := hb1.size
   rw [World.size_alloc, hsz] at hs1
   have hs4 := hb4.size
   rw [hsz] at hb4
   obtain ⟨g0, g1, g2, -, -, -, F1, F2, -, ⟨ap, cp, g3, -⟩, aq, cq, g4, -⟩ := ho.open
   simp only at g0 g1 g2 g3 g4
   subst g0 g1 g2 g3 g4
   have hrd4 := hrd.of_block (hb4.at hrd.lt (by omega))
   have hX4 := (((uh HX1).alloc (.cells #[.bool false] 4)).of_block (hb1.at ((uh HX1).alloc _).lt (by omega))).of_block (hb4.at (by omega) (by omega))
   have ho4 := Own.carry t _ F (fun x hx => hb4.at (hF x hx).2 (by have := (hF x hx).1; omega)) ho
   have hbw4 : Below w.heap.size w w4 := by
    refine (uh HB3).trans ⟨hb4.os.trans hb1.os, hb4.tape.trans hb1.tape, hb4.output.trans hb1.output, by rw [hsz]; omega, fun i hi => ?_⟩
    exact (hb4.at (by omega) (by omega)).trans ((hb1.at (by rw [World.size_alloc, hsz]; omega) (by omega)).trans (Below.heap_alloc _ _ _ (by rw [hsz]; omega)))
   obtain ⟨p0, p1, p2, p3, p4, p5, p6⟩ := cs7 hX4 (by omega); have pf := hX4.frozen
   obtain ⟨q0, q1, q2, q3, q4, q5, q6⟩ := cs7 hrd4 (by omega)
   simp only [row7] at p0 p1 p2 p3 p4 p5 p6 q0 q1 q2 q3 q4 q5 q6
   have HO := hH ho4; have HBW := hH hbw4; have HF := hH hF; have HU := hH hu; have HLT := hH (show w1.heap.size ≤ w4.heap.size from hs4)
   clear hrd4 hX4 ho4 hbw4 hF hb1 hb4 hrd ho HTRY HB3 HX1 hs1 hs4 hsz hu
   go_wp2_with fail
   refine bodyPost_ret (v := .tuple #[.agg #[.string ty, .int .i64 ver, .int .i64 t.sort, .int .i64 t.num, .string t.text, .slice ap t.names.length cp, .slice aq t.kids.length cq], .bool true]) (by simp [results, Tryz.results13, go_sem, p0, p1, p2, p3, p4, p5, p6]) rfl ?_
   refine ⟨?_, Or.inl ⟨ty, ver, t, ⟨_, _, _, _, _⟩, F, rfl, Own.carry _ _ F (fun y hy => by have := (uh HF y hy).1; repeat rw [Below.heap_setCell _ _ _ _ (by simp <;> omega)]) (uh HO), hnd, fun y hy => ⟨by have := (uh HF y hy).1; omega, by simp only [World.size_setCell]; have := (uh HF y hy).2; have := uh HLT; omega⟩, uh HU⟩⟩
   repeat refine Below.setCell ?_ (by simp <;> omega) _
   exact uh HBW
 · have hno : ∀ ty ver t, ¬ EvR s.data.toList ty ver t := fun ty ver t hu => hex ⟨ty, ver, t, hu⟩
   have htry := treeTry_no2 39 #[.pointer (some ⟨w.heap.size, 0, none⟩), .pointer (some ⟨w.heap.size + 2, 0, none⟩)] (((w.alloc (.cells #[.string s] 9)).alloc evZ).alloc evZ)
    (fun w1 => w1.heap[w.heap.size + 2]? = ((((w.alloc (.cells #[.string s] 9)).alloc evZ).alloc evZ).alloc (.cells #[.bool false] 4)).heap[w.heap.size + 2]? ∧ But (w.heap.size + 2) ((((w.alloc (.cells #[.string s] 9)).alloc evZ).alloc evZ).alloc (.cells #[.bool false] 4)) w1)
    (enterEvRead _) (by
      refine (hwork (.cells #[.bool false] 4)).mono ?_
      rintro e w1 ⟨hc, hb1⟩
      rcases hc with ⟨ty, ver, t, c, F, rfl, h1, h2, h3, h4, h5⟩ | ⟨rfl, -, h2⟩
      · exact absurd h5 (hno ty ver t)
      · exact ⟨rfl, ⟨h2, hb1⟩, hb1.at (by simp) (by rw [hsz3]; omega)⟩)
   have HTRY := hH htry; have HB3 := hH hb3; have HX1 := hH hX1; have HS3 := hH hsz3; have HRD := hH hub.rd; have HNO := hH hno
   clear htry hwork hub hb3 hX1 hTW hT hE hEW hsz3 hex hno
   go_enter Tryz.func13, Tryz.ntmps13
   go_wp2_with fail
   refine (uh HTRY).mono ?_
   rintro e w4 ⟨rfl, w1, ⟨hrdb, hb1⟩, hb4⟩
   have hsz := uh HS3
   have hs1 := hb1.size
   rw [World.size_alloc, hsz] at hs1
   have hs4 := hb4.size
   rw [hsz] at hb4
   have hrd4 := (((uh HRD).alloc (.cells #[.bool false] 4)).of_block hrdb).of_block (hb4.at (by omega) (by omega))
   have hX4 := (((uh HX1).alloc (.cells #[.bool false] 4)).of_block (hb1.at ((uh HX1).alloc _).lt (by omega))).of_block (hb4.at (by omega) (by omega))
   have hbw4 : Below w.heap.size w w4 := by
    refine (uh HB3).trans ⟨hb4.os.trans hb1.os, hb4.tape.trans hb1.tape, hb4.output.trans hb1.output, by rw [hsz]; omega, fun i hi => ?_⟩
    exact (hb4.at (by omega) (by omega)).trans ((hb1.at (by rw [World.size_alloc, hsz]; omega) (by omega)).trans (Below.heap_alloc _ _ _ (by rw [hsz]; omega)))
   obtain ⟨p0, p1, p2, p3, p4, p5, p6⟩ := cs7 hX4 (by omega); have pf := hX4.frozen
   obtain ⟨q0, q1, q2, q3, q4, q5, q6⟩ := cs7 hrd4 (by omega)
   simp only [row7] at p0 p1 p2 p3 p4 p5 p6 q0 q1 q2 q3 q4 q5 q6
   have HBW := hH hbw4
   clear hrd4 hX4 hbw4 hb1 hb4 HTRY HB3 HX1 hs1 hs4 hsz HRD hrdb
   go_wp2_with fail
   refine bodyPost_ret (v := .tuple #[.agg #[.string ⟨#[]⟩, .int .i64 0, .int .i64 0, .int .i64 0, .string ⟨#[]⟩, .slice none 0 0, .slice none 0 0], .bool false]) (by simp [results, Tryz.results13, go_sem, p0, p1, p2, p3, p4, p5, p6]) rfl ?_
   refine ⟨?_, Or.inr ⟨rfl, uh HNO⟩⟩
   repeat refine Below.setCell ?_ (by simp <;> omega) _
   exact uh HBW

def nqt (c : UInt8) : Bool := c != 34
def q34 : ByteArray := ⟨#[34]⟩
theorem text_run_any (w : World) (R : Nat) (s : ByteArray) (at' : Nat) (hs : s.size ≤ 1048576) (h : Rdr w R s at' false) (ha : at' < s.size) (h34 : s[at'].toNat = 34) :
 Calls Tryz.prog 79 #[.pointer (some ⟨R, 0, none⟩)] w fun e w' => e = .returned (.string ⟨((lf s (at' + 1)).takeWhile nqt).toArray⟩) ∧ But R w w' ∧
  (pre q34 s (at' + 1 + rn nqt s (at' + 1)) = true → Rdr w' R s (at' + 1 + rn nqt s (at' + 1) + 1) false) ∧ (pre q34 s (at' + 1 + rn nqt s (at' + 1)) = false → Rdr w' R s (at' + 1 + rn nqt s (at' + 1)) true) := by
 have H := hH h
 have hp : pre q34 s at' = true := by
  unfold pre
  rw [lf_cons ha, show s[at'] = 34 from UInt8.toNat_inj.1 h34]
  rfl
 have HEAT : Hid (Calls Tryz.prog 51 #[.pointer (some ⟨R, 0, none⟩), .string q34] w fun e w' => e = .returned (.tuple #[]) ∧ Rdr w' R s (at' + 1) false ∧ But R w w') := hH (eat_yes w R s q34 at' false hs h (by omega) (by decide) (by decide) hp)
 have hle := rn_le nqt s (at' + 1) (by omega)
 rw [← rn_take]
 generalize hb0 : at' + 1 = b0 at *
 have hle0 : b0 ≤ b0 + rn nqt s b0 := by omega
 generalize hen : b0 + rn nqt s b0 = en at *
 have HR := hH hen
 have hi0 : (0 : Int) ≤ (b0 : Int) := by omega
 have hi1 : (b0 : Int) ≤ (en : Int) := by omega
 have hi2 : (en : Int) ≤ (s.size : Int) := by omega
 clear h hp hen hb0 h34 ha
 go_enter Tryz.func79, Tryz.ntmps79
 go_wp2_with (go_at_call 51; refine (uh HEAT).mono ?_; rintro e w1 ⟨rfl, hr1, hb1⟩; have HR1 := hH hr1; have HB1 := hH hb1; obtain ⟨c0, c1, c2, f1, f2⟩ := hr1.cells; clear hr1 hb1)
 go_loopw [] (fun wr => ∃ (j : Nat), b0 ≤ j ∧ j ≤ s.size ∧ Hid (j + rn nqt s j = en) ∧ Hid (Rdr wr R s j false) ∧ But R w wr) (fun wr => s.size - atOf wr R)
 case atStart => exact ⟨b0, Nat.le_refl _, by omega, HR, HR1, HB1⟩
 case round =>
  obtain ⟨j, hj0, hj1, HJ, HRj, hb⟩ := hrel
  obtain ⟨y0, y1, y2, g1, g2⟩ := HRj.out.cells
  have hat := HRj.out.atOf
  clear c0 c1 c2 f1 f2 HR1 HB1 HEAT HR H
  by_cases hlt : j < s.size
  · have hd : decide ((j : Int) < (s.size : Int)) = true := by simp; omega
    by_cases hq : s[j].toNat = 34
    · have hst := rn_stop (p := nqt) hlt (by unfold nqt; rw [show s[j] = 34 from UInt8.toNat_inj.1 hq]; rfl)
      obtain rfl : en = j := by have := HJ.out; omega
      have hpr : pre q34 s en = true := by
       unfold pre
       rw [lf_cons hlt, show s[en] = 34 from UInt8.toNat_inj.1 hq]
       rfl
      have hb34 : ((s[en].toNat : Int) == 34) = true := by simp; omega
      have HPR := hH hpr; have HQ := hH hq
      clear hst hpr hq
      go_wp2_with fail
      go_quiet (fail)
      go_wp2_with fail
      refine (eat_yes _ R s q34 (en) false hs (HRj.out.heap (by rfl)) (by omega) (by decide) (by decide) HPR.out).mono ?_
      rintro e w2 ⟨rfl, hr2, hb2⟩
      have HR2 := hH hr2; have HB2 := hH hb2
      obtain ⟨z0, z1, z2, -, -⟩ := hr2.cells
      clear hr2 hb2
      go_wp2_with fail
      go_ret
      exact ⟨rfl, (but_drewN hb _).trans HB2.out, fun _ => HR2.out, fun h => by rw [HPR.out] at h; cases h⟩
    · have hst := rn_step (p := nqt) hlt (by unfold nqt; rw [bne_iff_ne]; intro e; apply hq; rw [e]; rfl)
      have HJ2 : Hid (j + 1 + rn nqt s (j + 1) = en) := by have := HJ.out; show _ = _; omega
      have hb34 : ((s[j].toNat : Int) == 34) = false := by simp; omega
      clear hst hq
      go_wp2_with fail
      go_quiet (fail)
      go_wp2_with fail
      go_roundw
      case rel => exact ⟨j + 1, by omega, by omega, HJ2, hH ((HRj.out.heap rfl).set1 _), (but_drewN hb _).trans (But.set _ _ _)⟩
      case measure => rw [hat]; exact Rdr.meas ((HRj.out.heap rfl).set1 (j + 1)) (by omega) (by omega)
  · have hst := rn_end (p := nqt) (s := s) (i := j) (by omega)
    obtain rfl : en = j := by have := HJ.out; omega
    have hpr : pre q34 s en = false := by
     unfold pre
     rw [lf_nil (by omega)]
     rfl
    have hd : decide ((en : Int) < (s.size : Int)) = false := by simp; omega
    have HPR := hH hpr
    clear hst hpr
    go_wp2_with fail
    go_quiet (fail)
    go_wp2_with fail
    refine (eat_no _ R s q34 (en) false hs (HRj.out.heap (by rfl)) (by omega) (by decide) (by decide) HPR.out).mono ?_
    rintro e w2 ⟨rfl, hr2, hb2⟩
    have HR2 := hH hr2; have HB2 := hH hb2
    obtain ⟨z0, z1, z2, -, -⟩ := hr2.cells
    clear hr2 hb2
    go_wp2_with fail
    go_ret
    exact ⟨rfl, (but_drewN hb _).trans HB2.out, (fun h => by rw [HPR.out] at h; cases h), fun _ => HR2.out⟩

theorem tw_lt {p : UInt8 → Bool} {l : List UInt8} {k : Nat} (hk : k < (l.takeWhile p).length) : ∃ c, l[k]? = some c ∧ p c = true ∧ (l.takeWhile p)[k]? = some c := by
 induction l generalizing k with
 | nil => simp at hk
 | cons a r ih =>
   by_cases ha : p a = true
   · rw [List.takeWhile_cons_of_pos ha] at hk ⊢
     cases k with
     | zero => exact ⟨a, rfl, ha, rfl⟩
     | succ k => simp only [List.length_cons] at hk; obtain ⟨c, h1, h2, h3⟩ := ih (k := k) (by omega); exact ⟨c, by simpa using h1, h2, by simpa using h3⟩
   · rw [List.takeWhile_cons_of_neg ha] at hk; simp at hk
theorem tw_end {p : UInt8 → Bool} {l : List UInt8} {c : UInt8} (h : l[(l.takeWhile p).length]? = some c) : p c = false := by
 induction l with
 | nil => simp at h
 | cons a r ih =>
   by_cases ha : p a = true
   · rw [List.takeWhile_cons_of_pos ha] at h
     simp only [List.length_cons, List.getElem?_cons_succ] at h
     exact ih h
   · rw [List.takeWhile_cons_of_neg ha] at h
     simp only [List.length_nil, List.getElem?_cons_zero, Option.some.injEq] at h
     subst h; simpa using ha
def dgs (s : ByteArray) (b : Nat) : List UInt8 := ((lf s b).take 10).takeWhile isDg
theorem lf_get (s : ByteArray) (b k : Nat) : (lf s b)[k]? = if h : b + k < s.size then some s[b + k] else none := by
 unfold lf
 rw [List.getElem?_drop]
 by_cases h : b + k < s.size
 · rw [dif_pos h, List.getElem?_eq_getElem (by simpa using h)]; rfl
 · rw [dif_neg h, List.getElem?_eq_none (by simp only [Array.length_toList]; show s.size ≤ b + k; omega)]
theorem dgs_len (s : ByteArray) (b : Nat) : (dgs s b).length ≤ 10 ∧ (b ≤ s.size → b + (dgs s b).length ≤ s.size) := by
 unfold dgs
 have := (List.takeWhile_prefix (p := isDg) (l := (lf s b).take 10)).length_le
 rw [List.length_take, lf_len] at this
 exact ⟨by omega, fun _ => by omega⟩
theorem dgs_lt {s : ByteArray} {b k : Nat} (hk : k < (dgs s b).length) : k < 10 ∧ ∃ h : b + k < s.size, isDg s[b + k] = true ∧ (dgs s b)[k]? = some s[b + k] := by
 have h10 := (dgs_len s b).1
 obtain ⟨c, h1, h2, h3⟩ := tw_lt hk
 rw [List.getElem?_take_of_lt (by omega), lf_get] at h1
 split at h1
 · rename_i h
   simp only [Option.some.injEq] at h1
   subst h1
   exact ⟨by omega, h, h2, h3⟩
 · cases h1
theorem dgs_end {s : ByteArray} {b : Nat} (h10 : (dgs s b).length < 10) (h : b + (dgs s b).length < s.size) : isDg s[b + (dgs s b).length] = false := by
 refine tw_end (p := isDg) (l := (lf s b).take 10) ?_
 show ((lf s b).take 10)[(dgs s b).length]? = _
 rw [List.getElem?_take_of_lt h10, lf_get, dif_pos h]
theorem dval_take {ds : List UInt8} {k : Nat} {c : UInt8} (h : ds[k]? = some c) : dval 0 (ds.take (k + 1)) = dval 0 (ds.take k) * 10 + (c.toNat - 48) := by
 have hk : k < ds.length := by
  by_cases hk : k < ds.length
  · exact hk
  · rw [List.getElem?_eq_none (by omega)] at h; cases h
 rw [List.getElem?_eq_getElem hk, Option.some.injEq] at h
 unfold dval
 rw [List.take_succ_eq_append_getElem hk, List.foldl_append, h]
 rfl
theorem dval_lt (s : ByteArray) (b k : Nat) (hk : k ≤ (dgs s b).length) : dval 0 ((dgs s b).take k) < 10 ^ k := by
 induction k with
 | zero => simp [dval]
 | succ k ih =>
   obtain ⟨_, h, hd, hg⟩ := dgs_lt (s := s) (b := b) (k := k) (by omega)
   rw [dval_take hg, Nat.pow_succ]
   have := ih (by omega)
   unfold isDg at hd
   simp at hd
   omega
theorem dval_bd (s : ByteArray) (b k : Nat) (hk : k ≤ (dgs s b).length) : dval 0 ((dgs s b).take k) ≤ 10000000000 := by
 have h1 := dval_lt s b k hk
 have h2 := (dgs_len s b).1
 have h3 : 10 ^ k ≤ 10 ^ 10 := Nat.pow_le_pow_right (by omega) (by omega)
 omega
def NumAt (w wr : World) (R : Nat) (s : ByteArray) (b : Nat) (n : Value) : Prop :=
 ∃ k, k ≤ (dgs s b).length ∧ n = .int .i64 (dval 0 ((dgs s b).take k) : Nat) ∧ Rdr wr R s (b + k) false ∧ But R w wr
theorem isDg_iff (c : UInt8) : isDg c = true ↔ (48 ≤ c.toNat ∧ c.toNat ≤ 57) := by unfold isDg; simp
theorem sub48 {v : Int} (h0 : 48 ≤ v) (h1 : v ≤ 57) : IntKind.u8.wrap (v - 48) = v - 48 := by rw [IntKind.wrap_u8]; omega
theorem num_round (s : ByteArray) (b k : Nat) (hk : k ≤ (dgs s b).length) :
 ((48 ≤ bv s (b + k) ∧ bv s (b + k) ≤ 57 ∧ k < 10) ∧ k < (dgs s b).length ∧ dval 0 ((dgs s b).take (k + 1)) = dval 0 ((dgs s b).take k) * 10 + (bv s (b + k) - 48) ∧ b + k + 1 ≤ s.size) ∨
 (k = (dgs s b).length ∧ (bv s (b + k) < 48 ∨ 57 < bv s (b + k) ∨ (48 ≤ bv s (b + k) ∧ bv s (b + k) ≤ 57 ∧ k = 10))) := by
 have hl := dgs_len s b
 by_cases hlt : k < (dgs s b).length
 · obtain ⟨h10, h, hd, hg⟩ := dgs_lt hlt
   have hv : bv s (b + k) = s[b + k].toNat := by unfold bv; rw [dif_pos h]
   rw [isDg_iff] at hd
   rw [hv]
   exact Or.inl ⟨⟨hd.1, hd.2, h10⟩, hlt, dval_take hg, by omega⟩
 · have he : k = (dgs s b).length := by omega
   refine Or.inr ⟨he, ?_⟩
   by_cases h10 : k < 10
   · by_cases h : b + k < s.size
     · have hv : bv s (b + k) = s[b + k].toNat := by unfold bv; rw [dif_pos h]
       subst he
       have hd := dgs_end h10 h
       have hd' : ¬ isDg s[b + (dgs s b).length] = true := by rw [hd]; simp
       rw [isDg_iff] at hd'
       rw [hv]; omega
     · have hv : bv s (b + k) = 0 := by unfold bv; rw [dif_neg h]
       omega
   · omega
theorem num_pos (w : World) (R : Nat) (s : ByteArray) (at' : Nat) (hs : s.size ≤ 1048576) (h : Rdr w R s at' false) (hv0 : bv s at' ≠ 45) (ha : at' ≤ s.size) :
 Calls Tryz.prog 52 #[.pointer (some ⟨R, 0, none⟩)] w fun e w' => e = .returned (.int .i64 ((dval 0 (dgs s at') : Nat))) ∧ Rdr w' R s (at' + (dgs s (at')).length) (decide (dgs s (at') = [])) ∧ But R w w' := by
 have HRD := hH h
 obtain ⟨c0, c1, c2, f1, f2⟩ := h.cells
 have HLK := hH (fun W (hW : W.heap = w.heap) => look_any W R s at' false (h.heap hW))
 have hl := dgs_len s (at')
 have hb45 : ((bv s at' : Int) == 45) = false := by simp; omega
 generalize bv s at' = v0 at *
 obtain ⟨b0, hb0⟩ : ∃ b0, b0 = at' := ⟨_, rfl⟩
 rw [← hb0] at hl ⊢
 have hbs : b0 ≤ s.size := by omega
 have HB0 := hH hb0
 have hl2 := hl.2 hbs
 have hl1 := hl.1
 have hb0i : (at' : Int) = (b0 : Int) := by omega
 clear h hv0 hl hb0
 go_enter Tryz.func52, Tryz.ntmps52
 go_wp2_with (go_at_call 78; refine (uh HLK _ (by rfl)).mono ?_; rintro e w' ⟨rfl, m, rfl⟩)
 go_loopw [5] (fun n wr => Hid (NumAt w wr R s b0 n)) (fun _ wr => s.size - atOf wr R)
 case atStart =>
  have := HRD.out.drewN m
  rw [← HB0.out] at this
  exact hH ⟨0, Nat.zero_le _, rfl, this, but_drewN (But.refl _ _) _⟩
 case round =>
  obtain ⟨k, hk, rfl, hrk, hb⟩ := hrel.out
  have HRK := hH hrk
  obtain ⟨y0, y1, y2, g1, g2⟩ := hrk.cells
  have hat := hrk.atOf
  have HLK2 := hH (fun W (hW : W.heap = wr.heap) => look_any W R s (b0 + k) false (hrk.heap hW))
  have hbd := dval_bd s b0 k hk
  have hcase := num_round s b0 k hk
  clear hrel hrk HLK c0 c1 c2 f1 f2
  rcases hcase with ⟨⟨v1, v2, v3⟩, hlt, hst, hle⟩ | ⟨he, hstop⟩
  · have HST := hH hst
    have hw48 := sub48 (v := (bv s (b0 + k) : Int)) (by omega) (by omega)
    have hcast : ((dval 0 ((dgs s b0).take (k + 1)) : Nat) : Int) = (dval 0 ((dgs s b0).take k) : Int) * 10 + ((bv s (b0 + k) : Int) - 48) := by rw [hst]; omega
    have HCA := hH hcast
    generalize bv s (b0 + k) = v at *
    generalize dval 0 ((dgs s b0).take k) = n at *
    clear hst hcast
    go_wp2_with (go_at_call 78; refine (uh HLK2 _ (by rfl)).mono ?_; rintro e w' ⟨rfl, m, rfl⟩)
    go_roundw
    case rel =>
     refine hH ⟨k + 1, hlt, ?_, ?_, (but_drewN hb _).trans (But.set _ _ _)⟩
     · rw [HCA.out]
     · exact (HRK.out.drewN _).set1 (b0 + k + 1)
    case measure => rw [hat]; exact Rdr.meas ((HRK.out.drewN _).set1 (b0 + k + 1)) (by omega) (by omega)
  · subst he
    have htk : (dgs s b0).take (dgs s b0).length = dgs s b0 := List.take_length
    rw [htk] at hbd ⊢
    generalize bv s (b0 + (dgs s b0).length) = v at *
    by_cases hk0 : (dgs s b0).length = 0
    · have HDK := hH (show decide (dgs s b0 = []) = true by simpa using hk0)
      have hbe : (((b0 : Int) + ((dgs s b0).length : Int)) == (b0 : Int)) = true := by simp; omega
      rcases hstop with hv | hv | ⟨hv1, hv2, hv3⟩
      · clear hk0
        go_wp2_with (go_at_call 78; refine (uh HLK2 _ (by rfl)).mono ?_; rintro e w' ⟨rfl, m, rfl⟩)
        go_ret
        refine ⟨rfl, ?_, (but_drewN hb _).trans (But.set _ _ _)⟩
        rw [HDK.out]; exact (HRK.out.drewN _).set2 _
      · clear hk0
        go_wp2_with (go_at_call 78; refine (uh HLK2 _ (by rfl)).mono ?_; rintro e w' ⟨rfl, m, rfl⟩)
        go_ret
        refine ⟨rfl, ?_, (but_drewN hb _).trans (But.set _ _ _)⟩
        rw [HDK.out]; exact (HRK.out.drewN _).set2 _
      · omega
    · have HDK := hH (show decide (dgs s b0 = []) = false by simpa using hk0)
      have hbe : (((b0 : Int) + ((dgs s b0).length : Int)) == (b0 : Int)) = false := by simp; omega
      rcases hstop with hv | hv | ⟨hv1, hv2, hv3⟩
      · clear hk0
        go_wp2_with (go_at_call 78; refine (uh HLK2 _ (by rfl)).mono ?_; rintro e w' ⟨rfl, m, rfl⟩)
        go_ret
        refine ⟨rfl, ?_, but_drewN hb _⟩
        rw [HDK.out]; exact HRK.out.drewN _
      · clear hk0
        go_wp2_with (go_at_call 78; refine (uh HLK2 _ (by rfl)).mono ?_; rintro e w' ⟨rfl, m, rfl⟩)
        go_ret
        refine ⟨rfl, ?_, but_drewN hb _⟩
        rw [HDK.out]; exact HRK.out.drewN _
      · clear hk0
        go_wp2_with (go_at_call 78; refine (uh HLK2 _ (by rfl)).mono ?_; rintro e w' ⟨rfl, m, rfl⟩)
        go_ret
        refine ⟨rfl, ?_, but_drewN hb _⟩
        rw [HDK.out]; exact HRK.out.drewN _
theorem num_neg (w : World) (R : Nat) (s : ByteArray) (at' : Nat) (hs : s.size ≤ 1048576) (h : Rdr w R s at' false) (hv0 : bv s at' = 45) (ha : at' < s.size) :
 Calls Tryz.prog 52 #[.pointer (some ⟨R, 0, none⟩)] w fun e w' => e = .returned (.int .i64 (-(dval 0 (dgs s (at' + 1)) : Int))) ∧ Rdr w' R s (at' + 1 + (dgs s (at' + 1)).length) (decide (dgs s (at' + 1) = [])) ∧ But R w w' := by
 have HRD := hH h
 obtain ⟨c0, c1, c2, f1, f2⟩ := h.cells
 have HLK := hH (fun W (hW : W.heap = w.heap) => look_any W R s at' false (h.heap hW))
 have hl := dgs_len s (at' + 1)
 have hb45 : ((bv s at' : Int) == 45) = true := by simp; omega
 generalize bv s at' = v0 at *
 obtain ⟨b0, hb0⟩ : ∃ b0, b0 = at' + 1 := ⟨_, rfl⟩
 rw [← hb0] at hl ⊢
 have hbs : b0 ≤ s.size := by omega
 have HB0 := hH hb0
 have hl2 := hl.2 hbs
 have hl1 := hl.1
 have hb0i : (at' : Int) + 1 = (b0 : Int) := by omega
 clear h hv0 hl hb0
 go_enter Tryz.func52, Tryz.ntmps52
 go_wp2_with (go_at_call 78; refine (uh HLK _ (by rfl)).mono ?_; rintro e w' ⟨rfl, m, rfl⟩)
 go_loopw [5] (fun n wr => Hid (NumAt w wr R s b0 n)) (fun _ wr => s.size - atOf wr R)
 case atStart =>
  refine hH ⟨0, Nat.zero_le _, rfl, ?_, (but_drewN (But.refl _ _) _).trans (But.set _ _ _)⟩
  have := (HRD.out.drewN m).set1 (at' + 1)
  rw [← HB0.out] at this
  exact this
 case round =>
  obtain ⟨k, hk, rfl, hrk, hb⟩ := hrel.out
  have HRK := hH hrk
  obtain ⟨y0, y1, y2, g1, g2⟩ := hrk.cells
  have hat := hrk.atOf
  have HLK2 := hH (fun W (hW : W.heap = wr.heap) => look_any W R s (b0 + k) false (hrk.heap hW))
  have hbd := dval_bd s b0 k hk
  have hcase := num_round s b0 k hk
  clear hrel hrk HLK c0 c1 c2 f1 f2
  rcases hcase with ⟨⟨v1, v2, v3⟩, hlt, hst, hle⟩ | ⟨he, hstop⟩
  · have HST := hH hst
    have hw48 := sub48 (v := (bv s (b0 + k) : Int)) (by omega) (by omega)
    have hcast : ((dval 0 ((dgs s b0).take (k + 1)) : Nat) : Int) = (dval 0 ((dgs s b0).take k) : Int) * 10 + ((bv s (b0 + k) : Int) - 48) := by rw [hst]; omega
    have HCA := hH hcast
    generalize bv s (b0 + k) = v at *
    generalize dval 0 ((dgs s b0).take k) = n at *
    clear hst hcast
    go_wp2_with (go_at_call 78; refine (uh HLK2 _ (by rfl)).mono ?_; rintro e w' ⟨rfl, m, rfl⟩)
    go_roundw
    case rel =>
     refine hH ⟨k + 1, hlt, ?_, ?_, (but_drewN hb _).trans (But.set _ _ _)⟩
     · rw [HCA.out]
     · exact (HRK.out.drewN _).set1 (b0 + k + 1)
    case measure => rw [hat]; exact Rdr.meas ((HRK.out.drewN _).set1 (b0 + k + 1)) (by omega) (by omega)
  · subst he
    have htk : (dgs s b0).take (dgs s b0).length = dgs s b0 := List.take_length
    rw [htk] at hbd ⊢
    generalize bv s (b0 + (dgs s b0).length) = v at *
    by_cases hk0 : (dgs s b0).length = 0
    · have HDK := hH (show decide (dgs s b0 = []) = true by simpa using hk0)
      have hbe : (((b0 : Int) + ((dgs s b0).length : Int)) == (b0 : Int)) = true := by simp; omega
      rcases hstop with hv | hv | ⟨hv1, hv2, hv3⟩
      · clear hk0
        go_wp2_with (go_at_call 78; refine (uh HLK2 _ (by rfl)).mono ?_; rintro e w' ⟨rfl, m, rfl⟩)
        go_ret
        refine ⟨rfl, ?_, (but_drewN hb _).trans (But.set _ _ _)⟩
        rw [HDK.out]; exact (HRK.out.drewN _).set2 _
      · clear hk0
        go_wp2_with (go_at_call 78; refine (uh HLK2 _ (by rfl)).mono ?_; rintro e w' ⟨rfl, m, rfl⟩)
        go_ret
        refine ⟨rfl, ?_, (but_drewN hb _).trans (But.set _ _ _)⟩
        rw [HDK.out]; exact (HRK.out.drewN _).set2 _
      · omega
    · have HDK := hH (show decide (dgs s b0 = []) = false by simpa using hk0)
      have hbe : (((b0 : Int) + ((dgs s b0).length : Int)) == (b0 : Int)) = false := by simp; omega
      rcases hstop with hv | hv | ⟨hv1, hv2, hv3⟩
      · clear hk0
        go_wp2_with (go_at_call 78; refine (uh HLK2 _ (by rfl)).mono ?_; rintro e w' ⟨rfl, m, rfl⟩)
        go_ret
        refine ⟨rfl, ?_, but_drewN hb _⟩
        rw [HDK.out]; exact HRK.out.drewN _
      · clear hk0
        go_wp2_with (go_at_call 78; refine (uh HLK2 _ (by rfl)).mono ?_; rintro e w' ⟨rfl, m, rfl⟩)
        go_ret
        refine ⟨rfl, ?_, but_drewN hb _⟩
        rw [HDK.out]; exact HRK.out.drewN _
      · clear hk0
        go_wp2_with (go_at_call 78; refine (uh HLK2 _ (by rfl)).mono ?_; rintro e w' ⟨rfl, m, rfl⟩)
        go_ret
        refine ⟨rfl, ?_, but_drewN hb _⟩
        rw [HDK.out]; exact HRK.out.drewN _
theorem num_any (w : World) (R : Nat) (s : ByteArray) (at' : Nat) (hs : s.size ≤ 1048576) (h : Rdr w R s at' false) (ha : at' ≤ s.size) :
 Calls Tryz.prog 52 #[.pointer (some ⟨R, 0, none⟩)] w fun e w' => ∃ (n : Int) (a2 : Nat) (bad : Bool), e = .returned (.int .i64 n) ∧ I64 n ∧ a2 ≤ s.size ∧ Rdr w' R s a2 bad ∧ But R w w' ∧
  (∀ m rest, spNum (lf s at') = some (m, rest) → n = m ∧ bad = false ∧ lf s a2 = rest) ∧ (spNum (lf s at') = none → bad = true) := by
 have hb := bv_head s at' 45 (by decide)
 by_cases hv : bv s at' = 45
 · have hlt : at' < s.size := by
    by_cases hl : at' < s.size
    · exact hl
    · unfold bv at hv; rw [dif_neg hl] at hv; omega
   have hh : (lf s at').head? = some 45 := hb.2 hv
   have hsp : spNum (lf s at') = if dgs s (at' + 1) = [] then none else some (-(dval 0 (dgs s (at' + 1)) : Int), (lf s (at' + 1)).drop (dgs s (at' + 1)).length) := by
    unfold spNum
    simp only [hh, if_true]
    rw [lf_cons hlt]
    rfl
   have hl := dgs_len s (at' + 1)
   have hbd := dval_bd s (at' + 1) _ (Nat.le_refl _)
   rw [List.take_length] at hbd
   refine (num_neg w R s at' hs h hv hlt).mono ?_
   rintro e w' ⟨rfl, hr, hbt⟩
   refine ⟨_, _, _, rfl, ⟨by omega, by omega⟩, hl.2 (by omega), hr, hbt, fun m rest hm => ?_, fun hm => ?_⟩
   · rw [hsp] at hm
     split at hm
     · cases hm
     · rename_i hne
       simp only [Option.some.injEq, Prod.mk.injEq] at hm
       refine ⟨hm.1, decide_eq_false hne, ?_⟩
       rw [← hm.2]; unfold lf; rw [List.drop_drop]
   · rw [hsp] at hm
     split at hm
     · rename_i he; exact decide_eq_true he
     · cases hm
 · have hh : ¬ (lf s at').head? = some 45 := fun e => hv (hb.1 e)
   have hsp : spNum (lf s at') = if dgs s at' = [] then none else some ((dval 0 (dgs s at') : Int), (lf s at').drop (dgs s at').length) := by
    unfold spNum
    simp only [if_neg hh]
    rfl
   have hl := dgs_len s at'
   have hbd := dval_bd s at' _ (Nat.le_refl _)
   rw [List.take_length] at hbd
   refine (num_pos w R s at' hs h hv ha).mono ?_
   rintro e w' ⟨rfl, hr, hbt⟩
   refine ⟨_, _, _, rfl, ⟨by omega, by omega⟩, hl.2 (by omega), hr, hbt, fun m rest hm => ?_, fun hm => ?_⟩
   · rw [hsp] at hm
     split at hm
     · cases hm
     · rename_i hne
       simp only [Option.some.injEq, Prod.mk.injEq] at hm
       refine ⟨hm.1, decide_eq_false hne, ?_⟩
       rw [← hm.2]; unfold lf; rw [List.drop_drop]
   · rw [hsp] at hm
     split at hm
     · rename_i he; exact decide_eq_true he
     · cases hm

def C5.list (c : C5) : List Value := [c.c0, c.c1, c.c2, c.c3, c.c4]
structure GotT (base : Nat) (wr : World) (vN vK : Value) (ns : List ByteArray) (ks : List Tr) (xs : List Value) : Prop where
 names : wr.ownsRow base 9 1 vN ns.length (ns.map Value.string)
 small : ∀ x, x ∈ ns → x.size ≤ 9223372036854775807
 apart : ∀ b, vN.ownBlock = some b → vK.ownBlock ≠ some b
 kids : wr.ownsRow base 26 5 vK ks.length xs
 reps : ∀ i, (hi : i < ks.length) → ∃ c : C5, (xs.drop (i * 5)).take 5 = c.list ∧ Rep (fun b => base ≤ b ∧ b < wr.heap.size ∧ some b ≠ vN.ownBlock ∧ some b ≠ vK.ownBlock) wr ks[i] c
theorem GotT.start (base : Nat) (w : World) : GotT base w (.slice none 0 0) (.slice none 0 0) [] [] [] :=
 ⟨World.ownsRow_nil _ _ _ _, fun _ h => by simp at h, fun _ h => by simp [Value.ownBlock] at h, World.ownsRow_nil _ _ _ _, fun i hi => by simp at hi⟩
theorem GotT.kept {base : Nat} {wr w' : World} {vN vK : Value} {ns : List ByteArray} {ks : List Tr} {xs : List Value} (h : GotT base wr vN vK ns ks xs) {R : Nat} (hR : R < base) (hb : But R wr w') : GotT base w' vN vK ns ks xs := by
 have hn : vN.ownBlock ≠ some R := fun e => by have := (h.names.lt R e).1; omega
 have hk : vK.ownBlock ≠ some R := fun e => by have := (h.kids.lt R e).1; omega
 refine ⟨h.names.kept hb (Or.inr hn), h.small, h.apart, h.kids.kept hb (Or.inr hk), fun i hi => ?_⟩
 obtain ⟨c, h1, h2⟩ := h.reps i hi
 exact ⟨c, h1, Rep.carry (fun b hb' => hb.at hb'.2.1 (by omega)) (fun b hb' => ⟨hb'.1, Nat.lt_of_lt_of_le hb'.2.1 hb.size, hb'.2.2⟩) _ _ h2⟩
theorem GotT.alloc {base : Nat} {wr : World} {vN vK : Value} {ns : List ByteArray} {ks : List Tr} {xs : List Value} (h : GotT base wr vN vK ns ks xs) (o : Obj) : GotT base (wr.alloc o) vN vK ns ks xs := by
 refine ⟨h.names.alloc o, h.small, h.apart, h.kids.alloc o, fun i hi => ?_⟩
 obtain ⟨c, h1, h2⟩ := h.reps i hi
 exact ⟨c, h1, Rep.carry (fun b hb' => Below.heap_alloc _ _ _ hb'.2.1) (fun b hb' => ⟨hb'.1, by simp; omega, hb'.2.2⟩) _ _ h2⟩
theorem sepK {vN vK : Value} (h : ∀ b, vN.ownBlock = some b → vK.ownBlock ≠ some b) : vK.ownBlock = none ∨ vK.ownBlock ≠ vN.ownBlock := by
 cases hK : vK.ownBlock with
 | none => exact Or.inl rfl
 | some b => exact Or.inr fun e => h b e.symm hK
theorem sepN {vN vK : Value} (h : ∀ b, vN.ownBlock = some b → vK.ownBlock ≠ some b) : vN.ownBlock = none ∨ vN.ownBlock ≠ vK.ownBlock := by
 cases hN : vN.ownBlock with
 | none => exact Or.inl rfl
 | some b => exact Or.inr fun e => h b hN e.symm
theorem GotT.name {base : Nat} {wr w' : World} {vN vN' vK : Value} {ns : List ByteArray} {ks : List Tr} {xs : List Value} {nm : ByteArray} (h : GotT base wr vN vK ns ks xs) (hnm : nm.size ≤ 9223372036854775807)
 (hown : w'.ownsRow base 9 1 vN' (ns.length + 1) (ns.map Value.string ++ [.string nm])) (hg : wr.grownBy w' vN.ownBlock) (hv : vN'.ownBlock = vN.ownBlock ∨ ∃ g, vN'.ownBlock = some g ∧ wr.heap.size ≤ g) :
 GotT base w' vN' vK (ns ++ [nm]) ks xs := by
 have hkl := h.kids.lt
 refine ⟨by simpa using hown, fun x hx => ?_, fun b hb e => ?_, h.kids.kept hg (sepK h.apart), fun i hi => ?_⟩
 · rcases List.mem_append.1 hx with hx | hx
   · exact h.small x hx
   · simp at hx; subst hx; exact hnm
 · rcases hv with e2 | ⟨g, e2, hgg⟩
   · exact h.apart b (by rw [← e2]; exact hb) e
   · rw [e2] at hb
     simp only [Option.some.injEq] at hb
     have := (hkl b e).2
     omega
 · obtain ⟨c, h1, h2⟩ := h.reps i hi
   refine ⟨c, h1, Rep.carry (fun b hb' => hg.block b hb'.2.1 hb'.2.2.1) (fun b hb' => ⟨hb'.1, Nat.lt_of_lt_of_le hb'.2.1 hg.size, ?_, hb'.2.2.2⟩) _ _ h2⟩
   rcases hv with e2 | ⟨g, e2, hgg⟩
   · rw [e2]; exact hb'.2.2.1
   · rw [e2]; intro e; simp only [Option.some.injEq] at e; have := hb'.2.1; omega
theorem GotT.kid {base : Nat} {wr w' : World} {vN vK vK' : Value} {ns : List ByteArray} {ks : List Tr} {xs : List Value} {t : Tr} {c : C5} (h : GotT base wr vN vK ns ks xs)
 (hc : Rep (fun b => base ≤ b ∧ b < wr.heap.size ∧ some b ≠ vN.ownBlock ∧ some b ≠ vK.ownBlock) wr t c)
 (hown : w'.ownsRow base 26 5 vK' (ks.length + 1) (xs ++ c.list)) (hg : wr.grownBy w' vK.ownBlock) (hv : vK'.ownBlock = vK.ownBlock ∨ ∃ g, vK'.ownBlock = some g ∧ wr.heap.size ≤ g) :
 GotT base w' vN vK' ns (ks ++ [t]) (xs ++ c.list) := by
 have hnl := h.names.lt
 have hcar : ∀ (t : Tr) (c : C5), Rep (fun b => base ≤ b ∧ b < wr.heap.size ∧ some b ≠ vN.ownBlock ∧ some b ≠ vK.ownBlock) wr t c → Rep (fun b => base ≤ b ∧ b < w'.heap.size ∧ some b ≠ vN.ownBlock ∧ some b ≠ vK'.ownBlock) w' t c := fun t c h2 => by
  refine Rep.carry (fun b hb' => hg.block b hb'.2.1 hb'.2.2.2) (fun b hb' => ⟨hb'.1, Nat.lt_of_lt_of_le hb'.2.1 hg.size, hb'.2.2.1, ?_⟩) _ _ h2
  rcases hv with e2 | ⟨g, e2, hgg⟩
  · rw [e2]; exact hb'.2.2.2
  · rw [e2]; intro e; simp only [Option.some.injEq] at e; have := hb'.2.1; omega
 have hxl : xs.length = ks.length * 5 := h.kids.1
 refine ⟨h.names.kept hg (sepN h.apart), h.small, fun b hb e => ?_, by simpa using hown, fun i hi => ?_⟩
 · rcases hv with e2 | ⟨g, e2, hgg⟩
   · exact h.apart b hb (by rw [← e2]; exact e)
   · rw [e2] at e
     simp only [Option.some.injEq] at e
     have := (hnl b hb).2
     omega
 · by_cases e : i = ks.length
   · subst e
     refine ⟨c, ?_, ?_⟩
     · rw [← hxl, List.drop_left]; rfl
     · simpa using hcar t c hc
   · have hi' : i < ks.length := by simp at hi; omega
     obtain ⟨d, h1, h2⟩ := h.reps i hi'
     refine ⟨d, ?_, ?_⟩
     · rw [List.drop_append_of_le_length (by omega), List.take_append_of_le_length (by rw [List.length_drop]; omega)]; exact h1
     · rw [List.getElem_append_left hi']; exact hcar _ _ h2
theorem GotT.done {base : Nat} {wr : World} {vN vK : Value} {ns : List ByteArray} {ks : List Tr} {xs : List Value} (h : GotT base wr vN vK ns ks xs) (s : Int) (hs : I64 s) :
 Rep (fun b => base ≤ b ∧ b < wr.heap.size) wr (.mk s 0 ByteArray.empty ns ks) ⟨.int .i64 s, .int .i64 0, .string ByteArray.empty, vN, vK⟩ := by
 rw [Rep]
 refine ⟨rfl, rfl, rfl, hs, ⟨by omega, by omega⟩, by simp, ?_, ?_⟩
 · rcases h.names.2 with ⟨hv, hn0⟩ | ⟨g, cap, cur, hv, hgb, hh, hle, hm2, hsz, htk⟩
   · refine ⟨none, 0, by rw [hv, hn0], by omega, fun i hi => by omega⟩
   · refine ⟨some ⟨g, 0, none⟩, cap, hv, by unfold maxLen at hm2; omega, fun i hi => ⟨g, 0, rfl, ⟨hgb, (Array.getElem?_eq_some_iff.1 hh).1⟩, ?_, h.small _ (List.getElem_mem hi)⟩⟩
     have h1 : (ns.map Value.string)[i]? = some (.string ns[i]) := by simp [hi]
     rw [← htk, List.getElem?_take_of_lt (by omega)] at h1
     simp only [Nat.zero_add, World.cell?, hh]
     simpa using h1
 · rcases h.kids.2 with ⟨hv, hn0⟩ | ⟨g, cap, cur, hv, hgb, hh, hle, hm2, hsz, htk⟩
   · exact ⟨none, 0, by rw [hv, hn0], by omega, fun hk => absurd (List.eq_nil_of_length_eq_zero hn0) hk⟩
   · refine ⟨some ⟨g, 0, none⟩, cap, hv, by unfold maxLen at hm2; omega, fun _ => ⟨g, 0, rfl, ⟨hgb, (Array.getElem?_eq_some_iff.1 hh).1⟩, RepK.mk fun i hi => ?_⟩⟩
     obtain ⟨c, h1, h2⟩ := h.reps i hi
     refine ⟨c, ?_, Rep.carry (fun _ _ => rfl) (fun b hb => ⟨hb.1, hb.2.1⟩) _ _ h2⟩
     have key : ∀ j, j < 5 → wr.cell? ⟨g, 0 + i * 5 + j, none⟩ = c.list[j]? := fun j hj => by
      rw [← h1, List.getElem?_take_of_lt hj, List.getElem?_drop, ← htk, List.getElem?_take_of_lt (by omega)]
      simp only [Nat.zero_add, World.cell?, hh]
      simp
     exact ⟨key 0 (by omega), key 1 (by omega), key 2 (by omega), key 3 (by omega), key 4 (by omega)⟩
end Go.Proofs.YtbkagahmiibclaaGreatDoor
