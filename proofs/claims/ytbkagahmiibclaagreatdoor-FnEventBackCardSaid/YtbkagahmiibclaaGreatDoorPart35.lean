/- The walk of the program's EventRead. The tables of strconv and treeFields are as the program's text lays them; for texts of at most 2^20 bytes. -/
import Derived.Test.YtbkagahmiibclaaGreatDoorPart34
import Derived.Test.YtbkagahmiibclaaGreatDoorPart23
import Derived.Test.YtbkagahmiibclaaGreatDoorRows
import Derived.Test.YtbkagahmiibclaaGreatDoorPart00
import Derived.Lib.ItoaNum
import Derived.Lib.ItoaLen
import Derived.Lib.ItoaMem
import Derived.Deep.RegionWith
import Derived.WalkSmall
import Derived.Test.YtbkagahmiibclaaGreatDoorPart24
namespace Go.Proofs.YtbkagahmiibclaaGreatDoor
open Go Go.RowKit

theorem enterEvRead (caps : Array Value) (W : World) : Sem.run Tryz.prog (callFunc 39 caps) W = .ok (.enter 39 caps) W := by
  kernel_rfl

set_option maxRecDepth 100000 in
set_option maxHeartbeats 800000 in
theorem newEvReader_walk (s : ByteArray) (w : World) :
    Calls Tryz.prog 40 #[.string s] w fun e w' => e = .returned (.agg #[.pointer (some ⟨w.heap.size + 1, 0, none⟩)]) ∧ TR w' (w.heap.size + 1) s 0 0 0 ∧ Below w.heap.size w w' := by
  obtain ⟨W1, hW1⟩ : ∃ W1, w.alloc (.cells #[.pointer none] 63) = W1 := ⟨_, rfl⟩
  have hb1 : Below w.heap.size w W1 := by rw [← hW1]; exact (Below.refl _ _).alloc (Nat.le_refl _) _
  have hs1 : W1.heap.size = w.heap.size + 1 := by rw [← hW1]; simp
  have r1 : W1.rowIs w.heap.size 63 1 (fun _ => .pointer none) := by
    rw [← hW1]
    exact World.rowIs_alloc w #[.pointer none] _ _ (fun i hi => by
      have hi' : i < 1 := hi
      match i, hi' with
      | 0, _ => rfl)
  have HN := hide (newReader_walk s W1)
  have HR1 := hide r1; have HB1 := hide hb1
  rw [hs1] at HN
  clear r1 hb1
  go_enter Tryz.func40, Tryz.ntmps40
  go_wp2_with (go_at_call 70
               refine (unhide HN).mono ?_
               rintro e w2 ⟨rfl, ht2, hb2⟩
               have hr2 := (unhide HR1).of_block (hb2.block _ (by omega))
               have y0 := hr2.cell (i := 0) (by omega)
               have yf := hr2.frozen 0
               have HT2 := hide ht2; have HB2 := hide ((unhide HB1).trans (hb2.mono (by omega)))
               have HR2 := hide hr2
               clear ht2 hb2 hr2)
  have hc := ((unhide HR2).set 0 (.pointer (some ⟨w.heap.size + 1, 0, none⟩))).cell (i := 0) (by omega)
  simp only [if_true] at hc
  refine bodyPost_ret (v := .agg #[.pointer (some ⟨w.heap.size + 1, 0, none⟩)]) (by simp [results, Tryz.results40, go_sem, hc]) rfl ?_
  exact ⟨rfl, (unhide HT2).of_block (Below.heap_setCell _ _ _ _ (by simp)), (unhide HB2).setCell (Nat.le_refl _) _⟩

/-- What the closure of EventRead finds: the box of the text, and the one into which it puts what it reads. -/
structure RbAt (X : Nat) (w : World) (s : ByteArray) : Prop where
  box : w.rowIs X 9 1 (fun _ => .string s)
  rd : w.rowIs (X + 2) 28 7 (row7 (.string ⟨#[]⟩) (.int .i64 0) (.int .i64 0) (.int .i64 0) (.string ⟨#[]⟩) (.slice none 0 0) (.slice none 0 0))

set_option maxRecDepth 100000 in
set_option maxHeartbeats 1600000 in
theorem rdWork (X : Nat) (w : World) (s : ByteArray) (hs : s.size ≤ 1048576) (h : RbAt X w s) (hE : Env w) (hT : Tab w) :
    Calls Tryz.prog 39 #[.pointer (some ⟨X, 0, none⟩), .pointer (some ⟨X + 2, 0, none⟩)] w fun e w' =>
      ((∃ (ty : ByteArray) (ver : Int) (t : Tr) (c : C5) (F : List Nat), e = .returned (.tuple #[]) ∧ w'.rowIs (X + 2) 28 7 (row7 (.string ty) (.int .i64 ver) c.c0 c.c1 c.c2 c.c3 c.c4) ∧ Own w' t c F ∧ F.Nodup ∧ (∀ x, x ∈ F → w.heap.size ≤ x ∧ x < w'.heap.size) ∧ EvR s.data.toList ty ver t) ∨ (e = fltE ∧ (∀ ty ver t, ¬ EvR s.data.toList ty ver t) ∧ w'.heap[X + 2]? = w.heap[X + 2]?)) ∧ But (X + 2) w w' := by
  have x0 := h.box.cell (i := 0) (by omega)
  have hlt := h.rd.lt
  have htop := hE.top
  have hTl := hT.lt
  have HNR := hide (newEvReader_walk s w)
  have HW := hide (fun (W1 : World) (h1 : TR W1 (w.heap.size + 1) s 0 0 0) (h2 : Below w.heap.size w W1) => wholeE_any W1 (w.heap.size + 1) s hs h1 (hE.below h2) (hT.of_block (h2.block _ hTl)) (by omega) (by omega))
  have HRD := hide h.rd
  clear h hE hT
  go_enter Tryz.func39, Tryz.ntmps39
  go_wp2_with (go_at_call 40; refine (unhide HNR).mono ?_; rintro e w0 ⟨rfl, ht0, hb0⟩; have HT0 := hide ht0; have HB0 := hide hb0; clear ht0 hb0 HNR)
  refine (unhide HW w0 (unhide HT0) (unhide HB0)).mono ?_
  rintro e w1 ⟨hb1, hc⟩
  have hb0 := unhide HB0
  have hs0 := hb0.size
  have hbw : Below w.heap.size w w1 := ⟨hb1.os.trans hb0.os, hb1.tape.trans hb0.tape, hb1.output.trans hb0.output, Nat.le_trans hs0 hb1.size, fun i hi => (hb1.at (by omega) (by omega)).trans (hb0.block i hi)⟩
  have hrd1 := (unhide HRD).of_block (hbw.block _ hlt)
  rcases hc with ⟨ty, ver, t, ⟨c0, c1, c2, c3, c4⟩, F, rfl, ho, hnd, hF, hu⟩ | ⟨rfl, hno⟩
  · obtain ⟨g0, g1, g2, -, -, -, F1, F2, -, ⟨ap, cp, g3, -⟩, aq, cq, g4, -⟩ := ho.open
    simp only at g0 g1 g2 g3 g4
    subst g0 g1 g2 g3 g4
    have p0 := hrd1.cell (i := 0) (by omega); have p1 := hrd1.cell (i := 1) (by omega); have p2 := hrd1.cell (i := 2) (by omega); have p3 := hrd1.cell (i := 3) (by omega); have p4 := hrd1.cell (i := 4) (by omega); have p5 := hrd1.cell (i := 5) (by omega); have p6 := hrd1.cell (i := 6) (by omega); have pf := hrd1.frozen
    simp only [row7] at p0 p1 p2 p3 p4 p5 p6
    have HR1 := hide hrd1; have HBW := hide hbw; have HO := hide ho; have HF := hide hF; have HU := hide hu
    clear hrd1 hbw ho hF hb1 HW HRD hu hb0 HB0 HT0
    go_wp2_with fail
    go_end0
    have hsz := (unhide HBW).size
    refine ⟨Or.inl ⟨ty, ver, t, ⟨.int .i64 t.sort, .int .i64 t.num, .string t.text, .slice ap t.names.length cp, .slice aq t.kids.length cq⟩, F, rfl, ?_, Own.carry _ _ F (fun y hy => ?_) (unhide HO), hnd, fun y hy => ⟨by have := (unhide HF y hy).1; omega, by simp only [World.size_setCell]; exact (unhide HF y hy).2⟩, unhide HU⟩, ?_⟩
    · have := (((((((unhide HR1).set 0 (.string ty)).set 1 (.int .i64 ver)).set 2 (.int .i64 t.sort)).set 3 (.int .i64 t.num)).set 4 (.string t.text)).set 5 (.slice ap t.names.length cp)).set 6 (.slice aq t.kids.length cq)
      exact this.congr (fun i hi => by rcases (show i = 0 ∨ i = 1 ∨ i = 2 ∨ i = 3 ∨ i = 4 ∨ i = 5 ∨ i = 6 by omega) with rfl | rfl | rfl | rfl | rfl | rfl | rfl <;> rfl)
    · have := (unhide HF y hy).1
      repeat rw [Below.heap_setCell _ _ _ _ (by simp <;> omega)]
    · refine (But.of_below (unhide HBW)).trans ?_
      exact (((((((But.set (B := X + 2) w1 0 _).trans (But.set _ 1 _)).trans (But.set _ 2 _)).trans (But.set _ 3 _)).trans (But.set _ 4 _)).trans (But.set _ 5 _)).trans (But.set _ 6 _))
  · exact ⟨rfl, Or.inr ⟨rfl, hno, hbw.block _ hlt⟩, But.of_below hbw⟩

/-- What EventRead comes to, the program's and the specification's. -/
def ErEnd (w w' : World) (s : ByteArray) (e : Ending) : Prop :=
  Below w.heap.size w w' ∧ ((∃ (ty : ByteArray) (ver : Int) (t : Tr) (c : C5) (F : List Nat), e = .returned (.tuple #[.agg #[.string ty, .int .i64 ver, c.c0, c.c1, c.c2, c.c3, c.c4], .bool true]) ∧ Own w' t c F ∧ F.Nodup ∧ (∀ x, x ∈ F → w.heap.size ≤ x ∧ x < w'.heap.size) ∧ EvR s.data.toList ty ver t)
    ∨ (e = .returned (.tuple #[.agg #[.string ⟨#[]⟩, .int .i64 0, .int .i64 0, .int .i64 0, .string ⟨#[]⟩, .slice none 0 0, .slice none 0 0], .bool false]) ∧ ∀ ty ver t, ¬ EvR s.data.toList ty ver t))

theorem rb_start (w : World) (s : ByteArray) : RbAt w.heap.size (((w.alloc (.cells #[.string s] 9)).alloc evZ).alloc evZ) s := by
  have h1 : (w.alloc (.cells #[.string s] 9)).rowIs w.heap.size 9 1 (fun _ => .string s) := World.rowIs_alloc w #[.string s] _ _ (fun i hi => by
    have hi' : i < 1 := hi
    match i, hi' with
    | 0, _ => rfl)
  refine ⟨(h1.alloc _).alloc _, ?_⟩
  have := row7_alloc ((w.alloc (.cells #[.string s] 9)).alloc evZ) (.string ⟨#[]⟩) (.int .i64 0) (.int .i64 0) (.int .i64 0) (.string ⟨#[]⟩) (.slice none 0 0) (.slice none 0 0) 28
  rw [World.size_alloc, World.size_alloc] at this
  exact this
theorem RbAt.on {X : Nat} {w w' : World} {s : ByteArray} (h : RbAt X w s) (hb : Below w.heap.size w w') : RbAt X w' s :=
  ⟨h.box.of_block (hb.block _ h.box.lt), h.rd.of_block (hb.block _ h.rd.lt)⟩

set_option maxRecDepth 100000 in
set_option maxHeartbeats 1600000 in
theorem implEventRead_any (w : World) (s : ByteArray) (hs : s.size ≤ 1048576) (hE : Env w) (hT : Tab w) :
    Calls Tryz.prog 13 #[.string s] w fun e w' => ErEnd w w' s e := by
  have hmf : ∀ (fn : Fn) (first cap : Array Value) (w : World), (Instr.makeFunc fn first cap).run Tryz.prog w = .ok (.func fn first cap) w := fun _ _ _ _ => rfl
  have hub := rb_start w s
  have hb3 : Below w.heap.size w (((w.alloc (.cells #[.string s] 9)).alloc evZ).alloc evZ) := (((Below.refl _ _).alloc (Nat.le_refl _) _).alloc (by simp) _).alloc (by simp; omega) _
  have hX1 : (((w.alloc (.cells #[.string s] 9)).alloc evZ).alloc evZ).rowIs (w.heap.size + 1) 28 7 (row7 (.string ⟨#[]⟩) (.int .i64 0) (.int .i64 0) (.int .i64 0) (.string ⟨#[]⟩) (.slice none 0 0) (.slice none 0 0)) := by
    have := (row7_alloc (w.alloc (.cells #[.string s] 9)) (.string ⟨#[]⟩) (.int .i64 0) (.int .i64 0) (.int .i64 0) (.string ⟨#[]⟩) (.slice none 0 0) (.slice none 0 0) 28).alloc evZ
    rw [World.size_alloc] at this
    exact this
  have hsz3 : (((w.alloc (.cells #[.string s] 9)).alloc evZ).alloc evZ).heap.size = w.heap.size + 3 := by simp
  have hEW := hE.below hb3
  have hTW := hT.of_block (hb3.block 1 hT.lt)
  have hwork := fun (o : Obj) => rdWork w.heap.size ((((w.alloc (.cells #[.string s] 9)).alloc evZ).alloc evZ).alloc o) s hs (hub.on ((Below.refl _ _).alloc (Nat.le_refl _) o)) (hEW.below ((Below.refl _ _).alloc (Nat.le_refl _) o)) (hTW.of_block (Below.heap_alloc _ _ _ hTW.lt))
  by_cases hex : ∃ ty ver t, EvR s.data.toList ty ver t
  · have htry := treeTry_yes2 39 #[.pointer (some ⟨w.heap.size, 0, none⟩), .pointer (some ⟨w.heap.size + 2, 0, none⟩)] (((w.alloc (.cells #[.string s] 9)).alloc evZ).alloc evZ)
      (fun w1 => ∃ (ty : ByteArray) (ver : Int) (t : Tr) (c : C5) (F : List Nat), w1.rowIs (w.heap.size + 2) 28 7 (row7 (.string ty) (.int .i64 ver) c.c0 c.c1 c.c2 c.c3 c.c4) ∧ Own w1 t c F ∧ F.Nodup ∧ (∀ x, x ∈ F → w.heap.size + 4 ≤ x ∧ x < w1.heap.size) ∧ EvR s.data.toList ty ver t ∧ But (w.heap.size + 2) ((((w.alloc (.cells #[.string s] 9)).alloc evZ).alloc evZ).alloc (.cells #[.bool false] 4)) w1)
      (enterEvRead _) (by
        refine (hwork (.cells #[.bool false] 4)).mono ?_
        rintro e w1 ⟨hc, hb1⟩
        rcases hc with ⟨ty, ver, t, c, F, rfl, h1, h2, h3, h4, h5⟩ | ⟨-, hno, -⟩
        · refine ⟨rfl, ⟨ty, ver, t, c, F, h1, h2, h3, fun x hx => ⟨by have := (h4 x hx).1; rw [World.size_alloc, hsz3] at this; omega, (h4 x hx).2⟩, h5, hb1⟩, ?_⟩
          exact hb1.at (by simp) (by rw [hsz3]; omega)
        · obtain ⟨ty, ver, t, hu⟩ := hex
          exact absurd hu (hno ty ver t))
    have HTRY := hide htry; have HB3 := hide hb3; have HX1 := hide hX1; have HS3 := hide hsz3
    clear htry hwork hub hb3 hX1 hTW hT hE hEW hsz3 hex
    go_enter Tryz.func13, Tryz.ntmps13
    go_wp2_with fail
    refine (unhide HTRY).mono ?_
    rintro e w4 ⟨rfl, w1, ⟨ty, ver, t, ⟨c0, c1, c2, c3, c4⟩, F, hrd, ho, hnd, hF, hu, hb1⟩, hb4⟩
    have hsz := unhide HS3
    have hs1 := hb1.size
    rw [World.size_alloc, hsz] at hs1
    have hs4 := hb4.size
    rw [hsz] at hb4
    obtain ⟨g0, g1, g2, -, -, -, F1, F2, -, ⟨ap, cp, g3, -⟩, aq, cq, g4, -⟩ := ho.open
    simp only at g0 g1 g2 g3 g4
    subst g0 g1 g2 g3 g4
    have hrd4 := hrd.of_block (hb4.at hrd.lt (by omega))
    have hX4 := (((unhide HX1).alloc (.cells #[.bool false] 4)).of_block (hb1.at ((unhide HX1).alloc _).lt (by omega))).of_block (hb4.at (by omega) (by omega))
    have ho4 := Own.carry t _ F (fun x hx => hb4.at (hF x hx).2 (by have := (hF x hx).1; omega)) ho
    have hbw4 : Below w.heap.size w w4 := by
      refine (unhide HB3).trans ⟨hb4.os.trans hb1.os, hb4.tape.trans hb1.tape, hb4.output.trans hb1.output, by rw [hsz]; omega, fun i hi => ?_⟩
      exact (hb4.at (by omega) (by omega)).trans ((hb1.at (by rw [World.size_alloc, hsz]; omega) (by omega)).trans (Below.heap_alloc _ _ _ (by rw [hsz]; omega)))
    have p0 := hX4.cell (i := 0) (by omega); have p1 := hX4.cell (i := 1) (by omega); have p2 := hX4.cell (i := 2) (by omega); have p3 := hX4.cell (i := 3) (by omega); have p4 := hX4.cell (i := 4) (by omega); have p5 := hX4.cell (i := 5) (by omega); have p6 := hX4.cell (i := 6) (by omega); have pf := hX4.frozen
    have q0 := hrd4.cell (i := 0) (by omega); have q1 := hrd4.cell (i := 1) (by omega); have q2 := hrd4.cell (i := 2) (by omega); have q3 := hrd4.cell (i := 3) (by omega); have q4 := hrd4.cell (i := 4) (by omega); have q5 := hrd4.cell (i := 5) (by omega); have q6 := hrd4.cell (i := 6) (by omega)
    simp only [row7] at p0 p1 p2 p3 p4 p5 p6 q0 q1 q2 q3 q4 q5 q6
    have HO := hide ho4; have HBW := hide hbw4; have HF := hide hF; have HU := hide hu; have HLT := hide (show w1.heap.size ≤ w4.heap.size from hs4)
    clear hrd4 hX4 ho4 hbw4 hF hb1 hb4 hrd ho HTRY HB3 HX1 hs1 hs4 hsz hu
    go_wp2_with fail
    refine bodyPost_ret (v := .tuple #[.agg #[.string ty, .int .i64 ver, .int .i64 t.sort, .int .i64 t.num, .string t.text, .slice ap t.names.length cp, .slice aq t.kids.length cq], .bool true]) (by simp [results, Tryz.results13, go_sem, p0, p1, p2, p3, p4, p5, p6]) rfl ?_
    refine ⟨?_, Or.inl ⟨ty, ver, t, ⟨_, _, _, _, _⟩, F, rfl, Own.carry _ _ F (fun y hy => by have := (unhide HF y hy).1; repeat rw [Below.heap_setCell _ _ _ _ (by simp <;> omega)]) (unhide HO), hnd, fun y hy => ⟨by have := (unhide HF y hy).1; omega, by simp only [World.size_setCell]; have := (unhide HF y hy).2; have := unhide HLT; omega⟩, unhide HU⟩⟩
    repeat refine Below.setCell ?_ (by simp <;> omega) _
    exact unhide HBW
  · have hno : ∀ ty ver t, ¬ EvR s.data.toList ty ver t := fun ty ver t hu => hex ⟨ty, ver, t, hu⟩
    have htry := treeTry_no2 39 #[.pointer (some ⟨w.heap.size, 0, none⟩), .pointer (some ⟨w.heap.size + 2, 0, none⟩)] (((w.alloc (.cells #[.string s] 9)).alloc evZ).alloc evZ)
      (fun w1 => w1.heap[w.heap.size + 2]? = ((((w.alloc (.cells #[.string s] 9)).alloc evZ).alloc evZ).alloc (.cells #[.bool false] 4)).heap[w.heap.size + 2]? ∧ But (w.heap.size + 2) ((((w.alloc (.cells #[.string s] 9)).alloc evZ).alloc evZ).alloc (.cells #[.bool false] 4)) w1)
      (enterEvRead _) (by
        refine (hwork (.cells #[.bool false] 4)).mono ?_
        rintro e w1 ⟨hc, hb1⟩
        rcases hc with ⟨ty, ver, t, c, F, rfl, h1, h2, h3, h4, h5⟩ | ⟨rfl, -, h2⟩
        · exact absurd h5 (hno ty ver t)
        · exact ⟨rfl, ⟨h2, hb1⟩, hb1.at (by simp) (by rw [hsz3]; omega)⟩)
    have HTRY := hide htry; have HB3 := hide hb3; have HX1 := hide hX1; have HS3 := hide hsz3; have HRD := hide hub.rd; have HNO := hide hno
    clear htry hwork hub hb3 hX1 hTW hT hE hEW hsz3 hex hno
    go_enter Tryz.func13, Tryz.ntmps13
    go_wp2_with fail
    refine (unhide HTRY).mono ?_
    rintro e w4 ⟨rfl, w1, ⟨hrdb, hb1⟩, hb4⟩
    have hsz := unhide HS3
    have hs1 := hb1.size
    rw [World.size_alloc, hsz] at hs1
    have hs4 := hb4.size
    rw [hsz] at hb4
    have hrd4 := (((unhide HRD).alloc (.cells #[.bool false] 4)).of_block hrdb).of_block (hb4.at (by omega) (by omega))
    have hX4 := (((unhide HX1).alloc (.cells #[.bool false] 4)).of_block (hb1.at ((unhide HX1).alloc _).lt (by omega))).of_block (hb4.at (by omega) (by omega))
    have hbw4 : Below w.heap.size w w4 := by
      refine (unhide HB3).trans ⟨hb4.os.trans hb1.os, hb4.tape.trans hb1.tape, hb4.output.trans hb1.output, by rw [hsz]; omega, fun i hi => ?_⟩
      exact (hb4.at (by omega) (by omega)).trans ((hb1.at (by rw [World.size_alloc, hsz]; omega) (by omega)).trans (Below.heap_alloc _ _ _ (by rw [hsz]; omega)))
    have p0 := hX4.cell (i := 0) (by omega); have p1 := hX4.cell (i := 1) (by omega); have p2 := hX4.cell (i := 2) (by omega); have p3 := hX4.cell (i := 3) (by omega); have p4 := hX4.cell (i := 4) (by omega); have p5 := hX4.cell (i := 5) (by omega); have p6 := hX4.cell (i := 6) (by omega); have pf := hX4.frozen
    have q0 := hrd4.cell (i := 0) (by omega); have q1 := hrd4.cell (i := 1) (by omega); have q2 := hrd4.cell (i := 2) (by omega); have q3 := hrd4.cell (i := 3) (by omega); have q4 := hrd4.cell (i := 4) (by omega); have q5 := hrd4.cell (i := 5) (by omega); have q6 := hrd4.cell (i := 6) (by omega)
    simp only [row7] at p0 p1 p2 p3 p4 p5 p6 q0 q1 q2 q3 q4 q5 q6
    have HBW := hide hbw4
    clear hrd4 hX4 hbw4 hb1 hb4 HTRY HB3 HX1 hs1 hs4 hsz HRD hrdb
    go_wp2_with fail
    refine bodyPost_ret (v := .tuple #[.agg #[.string ⟨#[]⟩, .int .i64 0, .int .i64 0, .int .i64 0, .string ⟨#[]⟩, .slice none 0 0, .slice none 0 0], .bool false]) (by simp [results, Tryz.results13, go_sem, p0, p1, p2, p3, p4, p5, p6]) rfl ?_
    refine ⟨?_, Or.inr ⟨rfl, unhide HNO⟩⟩
    repeat refine Below.setCell ?_ (by simp <;> omega) _
    exact unhide HBW
end Go.Proofs.YtbkagahmiibclaaGreatDoor

/- Digits as bytes and strings; small laws. No program walked, no conditions. -/

namespace Go.Proofs.YtbkagahmiibclaaGreatDoor
open Go Go.RowKit

/-- A digit's byte. -/
def dg (m : Int) : UInt8 := UInt8.ofNat (48 + m.toNat)
theorem dg_nat {m : Int} (h0 : 0 ≤ m) (h1 : m < 10) : ((dg m).toNat : Int) = 48 + m := by unfold dg; rw [UInt8.toNat_ofNat']; omega
theorem dec_small {n : Int} (h : n < 10) : Lib.decDigits n.toNat = [dg n] := by rw [Lib.decDigits, dif_pos (by omega)]; rfl
theorem dec_big {n : Int} (h : ¬ n < 10) : Lib.decDigits n.toNat = Lib.decDigits (n / 10).toNat ++ [dg (n % 10)] := by
  rw [Lib.decDigits, dif_neg (by omega), show (n / 10).toNat = n.toNat / 10 from by omega, show dg (n % 10) = UInt8.ofNat (48 + n.toNat % 10) from by unfold dg; rw [show (n % 10).toNat = n.toNat % 10 from by omega]]

/-- One byte, as a string. -/
theorem conv_one (W : World) (b cap : Nat) (m : Int) (h0 : 0 ≤ m) (h1 : m < 10) (hc : W.cell? ⟨b, 0, none⟩ = some (.int .u8 (48 + m))) :
    Sem.run Tryz.prog (convert 22 9 (.slice (some ⟨b, 0, none⟩) 1 cap)) W = .ok (.string ⟨#[dg m]⟩) W := by
  have := run_convert_bytes_back (P := Tryz.prog) W 22 9 5 ⟨b, 0, none⟩ cap [dg m] Tryz.underlying22 Tryz.underlying5 Tryz.underlying9 (fun j hj => by
    have hj0 : j = 0 := by simpa using hj
    subst hj0
    rw [Addr.add_lit, hc]
    simp only [List.getElem_cons_zero]
    rw [dg_nat h0 h1])
  simpa using this

theorem quo10 {n : Int} (h0 : 0 ≤ n) (h1 : n ≤ 999999999) : IntKind.i64.wrap (n.tdiv 10) = n / 10 := by
  rw [IntKind.wrap_i64, Int.tdiv_eq_ediv_of_nonneg h0]; omega
theorem rem10 {n : Int} (h0 : 0 ≤ n) : IntKind.i64.wrap (48 + n.tmod 10) = 48 + n % 10 := by
  rw [IntKind.wrap_i64, Int.tmod_eq_emod_of_nonneg h0]; omega
theorem rem10b (n : Int) : IntKind.u8.wrap (48 + n % 10) = 48 + n % 10 := by
  rw [IntKind.wrap_u8]; omega

theorem ba_append (a b : List UInt8) : ((⟨a.toArray⟩ : ByteArray) ++ (⟨b.toArray⟩ : ByteArray)) = ⟨(a ++ b).toArray⟩ := by
  apply ByteArray.ext
  simp
theorem ret_str {a b : ByteArray} (h : a = b) : Ending.returned (.string a) = .returned (.string b) := by rw [h]
theorem bc1 {w w1 : World} {o : Obj} (h : Below w.drew.heap.size w.drew w1) : Below w.heap.size w (w1.alloc o) :=
  (((Below.refl _ w).drew).trans h).alloc h.size o
theorem bc2 {w w1 : World} {o : Obj} (h : Below (w.alloc o).drew.heap.size (w.alloc o).drew w1) : Below w.heap.size w w1 :=
  (((Below.refl _ w).alloc (Nat.le_refl _) o).drew).trans (h.mono (by simp))
end Go.Proofs.YtbkagahmiibclaaGreatDoor

/- The walk of the specification's l6Dec: it gives the decimals of a number. For numbers from -999999999 to 999999999. -/

namespace Go.Proofs.YtbkagahmiibclaaGreatDoor
open Go Go.RowKit

set_option maxRecDepth 100000 in
set_option maxHeartbeats 400000 in
theorem l6Dec_nat : ∀ (k : Nat) (n : Int) (w : World), 0 ≤ n → n < k → n ≤ 999999999 →
    Calls Tryz.prog 34 #[.int .i64 n] w fun e w' => e = .returned (.string ⟨(Lib.decDigits n.toNat).toArray⟩) ∧ Below w.heap.size w w' := by
  intro k
  induction k with
  | zero => intro n w h0 h; omega
  | succ k ih =>
    intro n w hn0 hk hu
    by_cases h10 : n < 10
    · have HD := hide (dec_small h10)
      have hconv := fun W b cap => conv_one W b cap n hn0 h10
      clear ih
      go_enter Tryz.func34, Tryz.ntmps34
      go_wp2_with fail
      go_ret
      exact ⟨by rw [unhide HD]; rfl, (Below.refl _ _).alloc (Nat.le_refl _) _⟩
    · have HD := hide (dec_big h10)
      have hconv := fun W b cap => conv_one W b cap (n % 10) (by omega) (by omega)
      have hl := Lib.itoa_length_le (n / 10) (by omega) (by omega)
      have HIH := hide (fun W => (ih (n / 10) W (by omega) (by omega) (by omega)).mono (fun e w' (h : e = .returned (.string ⟨(Lib.decDigits (n / 10).toNat).toArray⟩) ∧ Below W.heap.size W w') => (⟨h.1, h.2, fun b o hb => h.2.cell (p := ⟨b, o, none⟩) hb⟩ : e = .returned (.string ⟨(Lib.decDigits (n / 10).toNat).toArray⟩) ∧ Below W.heap.size W w' ∧ ∀ b o, b < W.heap.size → w'.cell? ⟨b, o, none⟩ = W.cell? ⟨b, o, none⟩)))
      have hq1 := quo10 hn0 hu
      have hq2 := rem10 hn0
      have hq3 := rem10b n
      have hb0 : 0 ≤ n / 10 := by omega
      have hb1 : 0 ≤ n % 10 := by omega
      have hb2 : n % 10 < 10 := by omega
      have hl2 : (Lib.decDigits (n / 10).toNat).length ≤ 21 := by
        have : Lib.itoa (n / 10) = Lib.decDigits (n / 10).toNat := by unfold Lib.itoa; rw [if_neg (by omega)]
        rw [← this]; exact hl
      generalize Lib.decDigits (n / 10).toNat = ds at *
      clear ih hl
      go_enter Tryz.func34, Tryz.ntmps34
      go_wp2_with fail
      go_region_with (go_at_call 34; refine (unhide HIH _).mono ?_; rintro e w1 ⟨rfl, hb, hcell⟩; have HB := hide hb; clear hb)
      all_goals
        go_wp2_with fail
        go_ret
        refine ⟨ret_str ?_, ?_⟩
        · rw [unhide HD]; exact ba_append _ _
        · first | exact bc1 (unhide HB) | exact bc2 (unhide HB)

theorem itoa_lt {n : Int} (h : n < 0) : Lib.itoa n = 45 :: Lib.decDigits (-n).toNat := by
  unfold Lib.itoa; rw [if_pos h, show n.natAbs = (-n).toNat from by omega]
theorem itoa_ge {n : Int} (h : ¬ n < 0) : Lib.itoa n = Lib.decDigits n.toNat := by
  unfold Lib.itoa; rw [if_neg h]

set_option maxRecDepth 100000 in
set_option maxHeartbeats 400000 in
theorem l6Dec_any (n : Int) (w : World) (h0 : -999999999 ≤ n) (h1 : n ≤ 999999999) :
    Calls Tryz.prog 34 #[.int .i64 n] w fun e w' => e = .returned (.string ⟨(Lib.itoa n).toArray⟩) ∧ Below w.heap.size w w' := by
  by_cases hn : n < 0
  · rw [itoa_lt hn]
    have hl := Lib.itoa_length_le (-n) (by omega) (by omega)
    rw [itoa_ge (by omega)] at hl
    have HIH := hide (fun W => l6Dec_nat ((-n).toNat + 1) (-n) W (by omega) (by omega) (by omega))
    generalize Lib.decDigits (-n).toNat = ds at *
    go_enter Tryz.func34, Tryz.ntmps34
    go_wp2_with (go_at_call 34; refine (unhide HIH _).mono ?_; rintro e w1 ⟨rfl, hb⟩)
    go_ret
    exact ⟨ret_str (ba_append [45] ds), hb⟩
  · rw [itoa_ge hn]
    exact l6Dec_nat (n.toNat + 1) n w (by omega) (by omega) h1
end Go.Proofs.YtbkagahmiibclaaGreatDoor

/- The walk of the specification's l1Text: it gives the text of a tree all of whose parts are ok. The text has at most 2^40 bytes. -/

namespace Go.Proofs.YtbkagahmiibclaaGreatDoor
open Go Go.RowKit

def TextSaid (n : Nat) : Prop := ∀ (t : Tr), tsz t < n → ∀ (P : Nat → Prop) (c : C5) (w : World), (∀ b, P b → b < w.heap.size) → Rep P w t c → okT t = true → (txT t).length ≤ 1099511627776 →
    Calls Tryz.prog 35 #[.agg #[c.c0, c.c1, c.c2, c.c3, c.c4]] w fun e w' => e = .returned (.string ⟨(txT t).toArray⟩) ∧ Below w.heap.size w w'

theorem str_eq {a b : ByteArray} (h : a = b) : Value.string a = .string b := by rw [h]

set_option maxRecDepth 100000 in
set_option maxHeartbeats 800000 in
theorem text_123 (t : Tr) (P : Nat → Prop) (c : C5) (w : World) (hrep : Rep P w t c) (ho : okT t = true) (hlen : (txT t).length ≤ 1099511627776) (hs : t.sort = 1 ∨ t.sort = 2 ∨ t.sort = 3) :
    Calls Tryz.prog 35 #[.agg #[c.c0, c.c1, c.c2, c.c3, c.c4]] w fun e w' => e = .returned (.string ⟨(txT t).toArray⟩) ∧ Below w.heap.size w w' := by
  have ha : aloneB t = true := by rw [okT_eq, Bool.and_eq_true] at ho; exact ho.1
  have hx := txT_eq t
  obtain ⟨c0, c1, c2, c3, c4⟩ := c
  obtain ⟨e0, e1, e2, -, -, htx, ⟨a3, cap3, e3, -, -⟩, a, cap, e4, -, -⟩ := hrep.open
  simp only at e0 e1 e2 e3 e4
  subst e0 e1 e2 e3 e4
  have hbx : ∀ o, Below w.heap.size w (w.alloc o) := fun o => (Below.refl _ _).alloc (Nat.le_refl _) o
  have HBX := hide hbx
  clear hrep hbx ho
  rcases hs with hs | hs | hs
  · have hn : -999999999 ≤ t.num ∧ t.num ≤ 999999999 := by unfold aloneB at ha; rw [if_pos hs] at ha; simp at ha; omega
    rw [if_pos hs] at hx
    have HX := hide hx
    have HDEC := hide (fun W => l6Dec_any t.num W hn.1 hn.2)
    rw [hx] at hlen ⊢
    generalize Lib.itoa t.num = ds at *
    clear hx ha hn hlen HX
    go_enter Tryz.func35, Tryz.ntmps35
    go_wp2_with (go_at_call 34; refine (unhide HDEC _).mono ?_; rintro e w1 ⟨rfl, hb⟩)
    go_ret
    exact ⟨rfl, (unhide HBX _).trans (hb.mono (unhide HBX _).size)⟩
  · rw [if_neg (by omega), if_pos hs] at hx
    have HX := hide hx
    have htx2 : t.text.size ≤ 1099511627776 := by rw [hx] at hlen; simp at hlen; omega
    clear hx ha hlen htx
    go_enter Tryz.func35, Tryz.ntmps35
    go_wp2_with fail
    go_ret
    exact ⟨ret_str (by rw [unhide HX]; apply ByteArray.ext; simp), unhide HBX _⟩
  · rw [if_neg (by omega), if_neg (by omega), if_pos hs] at hx
    by_cases h1 : t.num = 1
    · rw [if_pos h1] at hx
      have HX := hide hx
      clear hx ha hlen
      go_enter Tryz.func35, Tryz.ntmps35
      go_wp2_with fail
      go_ret
      exact ⟨ret_str (by rw [unhide HX]), unhide HBX _⟩
    · rw [if_neg h1] at hx
      have HX := hide hx
      have h1' : (t.num == 1) = false := by simpa using h1
      clear hx ha hlen
      go_enter Tryz.func35, Tryz.ntmps35
      go_wp2_with fail
      go_ret
      exact ⟨ret_str (by rw [unhide HX]), unhide HBX _⟩

set_option maxRecDepth 100000 in
set_option maxHeartbeats 1600000 in
theorem text_4 (n : Nat) (IH : TextSaid n) (t : Tr) (hn : tsz t ≤ n) (P : Nat → Prop) (c : C5) (w : World) (hP : ∀ b, P b → b < w.heap.size) (hrep : Rep P w t c) (ho : okT t = true) (hlen : (txT t).length ≤ 1099511627776) (hs : t.sort = 4) :
    Calls Tryz.prog 35 #[.agg #[c.c0, c.c1, c.c2, c.c3, c.c4]] w fun e w' => e = .returned (.string ⟨(txT t).toArray⟩) ∧ Below w.heap.size w w' := by
  rw [okT_eq, Bool.and_eq_true] at ho
  obtain ⟨ha, hok⟩ := ho
  have hx : txT t = [91] ++ txK false t.names 0 t.kids ++ [93] := by rw [txT_eq, if_neg (by omega), if_neg (by omega), if_neg (by omega), if_neg (by omega), if_neg (by omega)]
  have hln : (txK false t.names 0 t.kids).length ≤ 1099511627776 := by rw [hx] at hlen; simp at hlen; omega
  obtain ⟨c0, c1, c2, c3, c4⟩ := c
  obtain ⟨e0, e1, e2, -, -, htx, hns, a, cap, e4, hkl, hks⟩ := hrep.open
  simp only at e0 e1 e2 hns e4
  obtain ⟨a3, cap3, e3, hnl, hnc⟩ := hns
  subst e0 e1 e2 e3 e4
  have HX := hide hx; have HLN := hide hln; have HP := hide hP; have HI := hide IH; have HK := hide hks; have HOK := hide hok; have HNC := hide hnc
  clear hrep hx hln hlen hP IH hks hok ha hnc
  generalize hkk : t.kids = ks at *
  have HKS := hide hkk; clear hkk
  rw [hs]
  go_enter Tryz.func35, Tryz.ntmps35
  go_wp2_with fail
  go_loopw [3, 4] (fun o i wr => ∃ (k : Nat) (ts : List UInt8), k ≤ ks.length ∧ i = .int .i64 k ∧ o = .string ⟨ts.toArray⟩ ∧ ts.length ≤ 1099511627776 ∧ Hid (ts = txTo false t.names ks k) ∧ wr.cell? ⟨w.heap.size, 0, none⟩ = some (.int .i64 4) ∧ wr.cell? ⟨w.heap.size, 3, none⟩ = some (.slice a3 t.names.length cap3) ∧ wr.cell? ⟨w.heap.size, 4, none⟩ = some (.slice a ks.length cap) ∧ w.heap.size < wr.heap.size ∧ Below w.heap.size w wr) (fun _ i _ => ks.length - (intOf i).toNat)
  case atStart => exact ⟨0, [], Nat.zero_le _, rfl, rfl, by simp, by show [] = _; simp [txTo, txK], by simp [go_sem], by simp [go_sem], by simp [go_sem], by simp, (Below.refl _ _).alloc (Nat.le_refl _) _⟩
  case round =>
    obtain ⟨k, ts, hk, rfl, rfl, hts, HTS, b0, b3, b4, hbs, hb⟩ := hrel
    by_cases hlt : k < ks.length
    · obtain ⟨b, o, c, rfl, hpb, hcell, hrp⟩ := unhide HK k hlt
      have hcell' := hcell.carry (hb.block b (unhide HP b hpb))
      obtain ⟨c0, c1, c2, c3, c4⟩ := c
      obtain ⟨e0, e1, e2, e3, e4⟩ := hcell'
      simp only at e0 e1 e2 e3 e4
      have hmem : ks[k] ∈ t.kids := by rw [unhide HKS]; exact List.getElem_mem hlt
      have hsm : tsz ks[k] < n := by have := tsz_kid hmem; omega
      have hsucc := txTo_succ false t.names ks k hlt
      have hle := txTo_le false t.names ks (k + 1) (by omega)
      have hlen2 := Nat.le_trans hle (unhide HLN)
      have htk : (txT ks[k]).length ≤ 1099511627776 := by rw [hsucc] at hlen2; simp at hlen2; omega
      have hcall := unhide HI ks[k] hsm P ⟨c0, c1, c2, c3, c4⟩ wr (fun b hb' => Nat.lt_of_lt_of_le (unhide HP b hb') hb.size) (Rep.carry (fun b hb' => hb.block b (unhide HP b hb')) (fun _ h => h) _ _ hrp) (okK_get (unhide HOK) k hlt) htk
      rw [hsucc, ← HTS.out] at hlen2
      rw [← HTS.out] at hsucc
      generalize txT ks[k] = tk at hcall hsucc htk hlen2
      have HCALL := hide hcall; have HSUCC := hide hsucc; have HLEN2 := hide hlen2
      clear hcell hpb hrp hmem hcall hsucc hle hlen2
      by_cases h0 : k = 0
      · have hah : ahead false t.names k = [] := by subst h0; simp [ahead]
        have hd : decide (0 < k) = false := by simp; omega
        have HK0 := hide h0
        have HAH := hide hah
        clear h0 hah
        go_wp2_with (go_at_call 35; refine (unhide HCALL).mono ?_; rintro e w1 ⟨rfl, hb1⟩)
        go_roundw
        case rel =>
          refine ⟨k + 1, ts ++ (ahead false t.names k ++ tk), by omega, by go_num, str_eq ?_, unhide HLEN2, (unhide HSUCC).symm, ?_, ?_, ?_, ?_, ?_⟩
          · rw [unhide HAH]; apply ByteArray.ext; simp
          · rw [hb1.cell hbs]; exact b0
          · rw [hb1.cell hbs]; exact b3
          · rw [hb1.cell hbs]; exact b4
          · exact Nat.lt_of_lt_of_le hbs hb1.size
          · exact hb.trans (hb1.mono hb.size)
        case measure => simp [intOf]; omega
      · have hah : ahead false t.names k = [44] := by simp [ahead]; omega
        have hd : decide (0 < k) = true := by simp; omega
        have HAH := hide hah
        clear h0 hah
        go_wp2_with (go_at_call 35; refine (unhide HCALL).mono ?_; rintro e w1 ⟨rfl, hb1⟩)
        go_roundw
        case rel =>
          refine ⟨k + 1, ts ++ (ahead false t.names k ++ tk), by omega, by go_num, str_eq ?_, unhide HLEN2, (unhide HSUCC).symm, ?_, ?_, ?_, ?_, ?_⟩
          · rw [unhide HAH]; apply ByteArray.ext; simp
          · rw [hb1.cell hbs]; exact b0
          · rw [hb1.cell hbs]; exact b3
          · rw [hb1.cell hbs]; exact b4
          · exact Nat.lt_of_lt_of_le hbs hb1.size
          · exact hb.trans (hb1.mono hb.size)
        case measure => simp [intOf]; omega
    · go_wp2_with fail
      go_ret
      refine ⟨ret_str ?_, hb⟩
      obtain rfl : k = ks.length := by omega
      rw [unhide HX, ← txTo_all, ← HTS.out]
      apply ByteArray.ext; simp

set_option maxRecDepth 100000 in
set_option maxHeartbeats 1600000 in
theorem text_5 (n : Nat) (IH : TextSaid n) (t : Tr) (hn : tsz t ≤ n) (P : Nat → Prop) (c : C5) (w : World) (hP : ∀ b, P b → b < w.heap.size) (hrep : Rep P w t c) (ho : okT t = true) (hlen : (txT t).length ≤ 1099511627776) (hs : t.sort = 5) :
    Calls Tryz.prog 35 #[.agg #[c.c0, c.c1, c.c2, c.c3, c.c4]] w fun e w' => e = .returned (.string ⟨(txT t).toArray⟩) ∧ Below w.heap.size w w' := by
  rw [okT_eq, Bool.and_eq_true] at ho
  obtain ⟨ha, hok⟩ := ho
  have hx : txT t = [123] ++ txK true t.names 0 t.kids ++ [125] := by rw [txT_eq, if_neg (by omega), if_neg (by omega), if_neg (by omega), if_neg (by omega), if_pos hs]
  have hln : (txK true t.names 0 t.kids).length ≤ 1099511627776 := by rw [hx] at hlen; simp at hlen; omega
  have hnk : t.names.length = t.kids.length := by unfold aloneB at ha; rw [if_neg (by omega), if_neg (by omega), if_neg (by omega), if_neg (by omega), if_pos hs] at ha; simp at ha; omega
  obtain ⟨c0, c1, c2, c3, c4⟩ := c
  obtain ⟨e0, e1, e2, -, -, htx, hns, a, cap, e4, hkl, hks⟩ := hrep.open
  simp only at e0 e1 e2 hns e4
  obtain ⟨a3, cap3, e3, hnl, hnc⟩ := hns
  subst e0 e1 e2 e3 e4
  have hnc' : ∀ i, i < t.kids.length → ∃ b o, a3 = some ⟨b, o, none⟩ ∧ P b ∧ w.cell? ⟨b, o + i, none⟩ = some (.string (t.names.getD i ByteArray.empty)) := fun i hi => by
    obtain ⟨b, o, h1, h2, h3, _⟩ := hnc i (by omega)
    rw [getD_lt _ _ (by omega)]
    exact ⟨b, o, h1, h2, h3⟩
  rw [hnk]
  clear hnk hnc hnl
  have HX := hide hx; have HLN := hide hln; have HP := hide hP; have HI := hide IH; have HK := hide hks; have HOK := hide hok; have HNC := hide hnc'
  clear hrep hx hln hlen hP IH hks hok ha hnc'
  generalize hkk : t.kids = ks at *
  have HKS := hide hkk; clear hkk
  rw [hs]
  go_enter Tryz.func35, Tryz.ntmps35
  go_wp2_with fail
  go_loopw [3, 4] (fun o i wr => ∃ (k : Nat) (ts : List UInt8), k ≤ ks.length ∧ i = .int .i64 k ∧ o = .string ⟨ts.toArray⟩ ∧ ts.length ≤ 1099511627776 ∧ Hid (ts = txTo true t.names ks k) ∧ wr.cell? ⟨w.heap.size, 0, none⟩ = some (.int .i64 5) ∧ wr.cell? ⟨w.heap.size, 3, none⟩ = some (.slice a3 ks.length cap3) ∧ wr.cell? ⟨w.heap.size, 4, none⟩ = some (.slice a ks.length cap) ∧ w.heap.size < wr.heap.size ∧ Below w.heap.size w wr) (fun _ i _ => ks.length - (intOf i).toNat)
  case atStart => exact ⟨0, [], Nat.zero_le _, rfl, rfl, by simp, by show [] = _; simp [txTo, txK], by simp [go_sem], by simp [go_sem], by simp [go_sem], by simp, (Below.refl _ _).alloc (Nat.le_refl _) _⟩
  case round =>
    obtain ⟨k, ts, hk, rfl, rfl, hts, HTS, b0, b3, b4, hbs, hb⟩ := hrel
    by_cases hlt : k < ks.length
    · obtain ⟨b, o, c, rfl, hpb, hcell, hrp⟩ := unhide HK k hlt
      have hcell' := hcell.carry (hb.block b (unhide HP b hpb))
      obtain ⟨c0, c1, c2, c3, c4⟩ := c
      obtain ⟨e0, e1, e2, e3, e4⟩ := hcell'
      simp only at e0 e1 e2 e3 e4
      have hmem : ks[k] ∈ t.kids := by rw [unhide HKS]; exact List.getElem_mem hlt
      have hsm : tsz ks[k] < n := by have := tsz_kid hmem; omega
      have hsucc := txTo_succ true t.names ks k hlt
      have hle := txTo_le true t.names ks (k + 1) (by omega)
      have hlen2 := Nat.le_trans hle (unhide HLN)
      have htk : (txT ks[k]).length ≤ 1099511627776 := by rw [hsucc] at hlen2; simp at hlen2; omega
      have hcall := unhide HI ks[k] hsm P ⟨c0, c1, c2, c3, c4⟩ wr (fun b hb' => Nat.lt_of_lt_of_le (unhide HP b hb') hb.size) (Rep.carry (fun b hb' => hb.block b (unhide HP b hb')) (fun _ h => h) _ _ hrp) (okK_get (unhide HOK) k hlt) htk
      rw [hsucc, ← HTS.out] at hlen2
      rw [← HTS.out] at hsucc
      generalize txT ks[k] = tk at hcall hsucc htk hlen2
      have HCALL := hide hcall; have HSUCC := hide hsucc; have HLEN2 := hide hlen2
      clear hcell hpb hrp hmem hcall hsucc hle hlen2
      obtain ⟨nb, no, rfl, hpn, hcn⟩ := unhide HNC k hlt
      have hcn' : wr.cell? ⟨nb, no + k, none⟩ = some (.string (t.names.getD k ByteArray.empty)) := by rw [hb.cell (unhide HP nb hpn)]; exact hcn
      have hah0 : ahead true t.names k = (if 0 < k then [44] else []) ++ ((t.names.getD k ByteArray.empty).data.toList ++ [58]) := by unfold ahead; rw [if_pos rfl]
      have hl2 := unhide HLEN2
      generalize t.names.getD k ByteArray.empty = nm at *
      have hnm8 : ts.length + nm.size + tk.length ≤ 1099511627776 := by
        rw [hah0] at hl2
        simp only [List.length_append] at hl2
        have e : nm.data.toList.length = nm.size := rfl
        omega
      have HAH0 := hide hah0
      clear hcn hpn hah0 hl2
      by_cases h0 : k = 0
      · have hah : ahead true t.names k = nm.data.toList ++ [58] := by rw [unhide HAH0, if_neg (by omega)]; rfl
        have hd : decide (0 < k) = false := by simp; omega
        have HK0 := hide h0
        have HAH := hide hah
        clear h0 hah
        go_wp2_with (go_at_call 35; refine (unhide HCALL).mono ?_; rintro e w1 ⟨rfl, hb1⟩)
        go_roundw
        case rel =>
          refine ⟨k + 1, ts ++ (ahead true t.names k ++ tk), by omega, by go_num, str_eq ?_, unhide HLEN2, (unhide HSUCC).symm, ?_, ?_, ?_, ?_, ?_⟩
          · rw [unhide HAH]; apply ByteArray.ext; simp
          · rw [hb1.cell hbs]; exact b0
          · rw [hb1.cell hbs]; exact b3
          · rw [hb1.cell hbs]; exact b4
          · exact Nat.lt_of_lt_of_le hbs hb1.size
          · exact hb.trans (hb1.mono hb.size)
        case measure => simp [intOf]; omega
      · have hah : ahead true t.names k = [44] ++ (nm.data.toList ++ [58]) := by rw [unhide HAH0, if_pos (by omega)]
        have hd : decide (0 < k) = true := by simp; omega
        have HAH := hide hah
        clear h0 hah
        go_wp2_with (go_at_call 35; refine (unhide HCALL).mono ?_; rintro e w1 ⟨rfl, hb1⟩)
        go_roundw
        case rel =>
          refine ⟨k + 1, ts ++ (ahead true t.names k ++ tk), by omega, by go_num, str_eq ?_, unhide HLEN2, (unhide HSUCC).symm, ?_, ?_, ?_, ?_, ?_⟩
          · rw [unhide HAH]; apply ByteArray.ext; simp
          · rw [hb1.cell hbs]; exact b0
          · rw [hb1.cell hbs]; exact b3
          · rw [hb1.cell hbs]; exact b4
          · exact Nat.lt_of_lt_of_le hbs hb1.size
          · exact hb.trans (hb1.mono hb.size)
        case measure => simp [intOf]; omega
    · go_wp2_with fail
      go_ret
      refine ⟨ret_str ?_, hb⟩
      obtain rfl : k = ks.length := by omega
      rw [unhide HX, ← txTo_all, ← HTS.out]
      apply ByteArray.ext; simp
end Go.Proofs.YtbkagahmiibclaaGreatDoor
