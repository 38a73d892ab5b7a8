/- The walks of the program's byteCursor.whole, and of EventUnpack. Conditions: the table treeFields is as the program lays it. -/
import Derived.Test.YtiflfcjocngiiaaGreatDoorPart17
import Derived.Test.YtiflfcjocngiiaaGreatDoorPart10
namespace Go.Proofs.YtiflfcjocngiiaaGreatDoor
open Go Go.RowKit

/-- These bytes are those of this event, which is ok. -/
def UpE (b : List UInt8) (ty : ByteArray) (ver : Int) (t : Tr) : Prop := evOkB ty ver t = true ∧ eventB ty ver t = b

/-- What reading the whole comes to. -/
def WhEnd (R : Nat) (w w' : World) (b : List UInt8) (e : Ending) : Prop :=
  But R w w' ∧ ((∃ (ty : ByteArray) (ver : Int) (t : Tr) (c : C5) (F : List Nat), e = .returned (.agg #[.string ty, .int .i64 ver, c.c0, c.c1, c.c2, c.c3, c.c4]) ∧ Own w' t c F ∧ F.Nodup ∧ (∀ x, x ∈ F → w.heap.size ≤ x ∧ x < w'.heap.size) ∧ UpE b ty ver t)
    ∨ (e = fltE ∧ ∀ ty ver t, ¬ UpE b ty ver t))

set_option maxRecDepth 100000 in
set_option maxHeartbeats 6400000 in
theorem wholeP_any (R : Nat) (w : World) (v : Value) (b : List UInt8) (h : Cu R w v b 0) (hT : Tab w) (hRT : 0 < R) :
    Calls Tryz.prog 47 #[.pointer (some ⟨R, 0, none⟩)] w fun e w' => WhEnd R w w' b e := by
  obtain ⟨av, capv, hv⟩ := h.row.slice
  subst hv
  have hb0 : ∀ o, But R w (w.alloc o) := fun o => But.alloc R w o
  have hcu : ∀ o, Cu R (w.alloc o) (.slice av b.length capv) b 0 := fun o => h.on ((Below.refl _ w).alloc (Nat.le_refl _) o)
  have r2 : ∀ o, (w.alloc o).cell? ⟨R, 2, none⟩ = some (.slice av b.length capv) := fun o => (hcu o).cells.cell (i := 2) (by omega)
  have hR := h.cells.lt
  have hsm := h.small
  by_cases h9 : b.length ≤ 9000
  · have hle : (b.length : Int) ≤ 9000 := by omega
    have HEV := hide (fun o => eventP_any R (w.alloc o) _ b 0 (hcu o))
    have HOK := hide (fun (W : World) (hW : But R w W) (ty : ByteArray) (ver : Int) (t : Tr) (Q : Nat → Prop) (d : C5) (hQ : ∀ b, Q b → b < W.heap.size) (hr : Rep Q W t d) (hty : ty.size ≤ 9223372036854775807) (hver : I64 ver) => implEventOk_any ty ver t Q d W hQ hr hty hver (hT.of_block (hW.at hT.lt (by omega))))
    have HX0 := hide (row7_alloc w (.string ⟨#[]⟩) (.int .i64 0) (.int .i64 0) (.int .i64 0) (.string ⟨#[]⟩) (.slice none 0 0) (.slice none 0 0) 41)
    have HB0 := hide hb0
    clear hcu h hT hb0
    go_enter Tryz.func47, Tryz.ntmps47
    go_wp2_with (go_at_call 32; refine (treeWant_yes _).mono ?_; rintro e w2 ⟨rfl, rfl⟩)
    refine (unhide HEV _).mono ?_
    rintro e w1 ⟨hb1, hcase⟩
    have hbw := (unhide HB0 _).trans hb1
    rcases hcase with ⟨ty, ver, t, ⟨c0, c1, c2, c3, c4⟩, F, a', rfl, ho, hnd, hF, hcu1, heq, hv255, hty, hco⟩ | ⟨rfl, hno⟩
    · rw [List.drop_zero] at heq hco
      obtain ⟨g0, g1, g2, -, -, -, F1, F2, -, ⟨ap, cp, g3, -⟩, aq, cq, g4, -⟩ := ho.open
      simp only at g0 g1 g2 g3 g4
      subst g0 g1 g2 g3 g4
      have hsz1 := hb1.size
      rw [World.size_alloc] at hsz1
      have hX1 := ((unhide HX0).of_block (hb1.at (by simp) (by omega))).alloc (.cells #[.string ty, .int .i64 (ver : Int), .int .i64 t.sort, .int .i64 t.num, .string t.text, .slice ap t.names.length cp, .slice aq t.kids.length cq] 41)
      have hY1 := row7_alloc w1 (.string ty) (.int .i64 (ver : Int)) (.int .i64 t.sort) (.int .i64 t.num) (.string t.text) (.slice ap t.names.length cp) (.slice aq t.kids.length cq) 41
      have hcA := hcu1.on ((Below.refl _ w1).alloc (Nat.le_refl _) (.cells #[.string ty, .int .i64 (ver : Int), .int .i64 t.sort, .int .i64 t.num, .string t.text, .slice ap t.names.length cp, .slice aq t.kids.length cq] 41))
      have m0 := hcA.cells.cell (i := 0) (by omega); have m2 := hcA.cells.cell (i := 2) (by omega)
      have y0 := hY1.cell (i := 0) (by omega); have y1 := hY1.cell (i := 1) (by omega); have y2 := hY1.cell (i := 2) (by omega); have y3 := hY1.cell (i := 3) (by omega); have y4 := hY1.cell (i := 4) (by omega); have y5 := hY1.cell (i := 5) (by omega); have y6 := hY1.cell (i := 6) (by omega)
      simp only [row3, row7] at m0 m2 y0 y1 y2 y3 y4 y5 y6
      have hbA := hbw.trans (But.alloc R w1 (.cells #[.string ty, .int .i64 (ver : Int), .int .i64 t.sort, .int .i64 t.num, .string t.text, .slice ap t.names.length cp, .slice aq t.kids.length cq] 41))
      have hrA : Rep (· ∈ F) (w1.alloc (.cells #[.string ty, .int .i64 (ver : Int), .int .i64 t.sort, .int .i64 t.num, .string t.text, .slice ap t.names.length cp, .slice aq t.kids.length cq] 41)) t ⟨.int .i64 t.sort, .int .i64 t.num, .string t.text, .slice ap t.names.length cp, .slice aq t.kids.length cq⟩ := Own.rep t _ F (fun _ h => h) (Own.carry t _ F (fun x hx => Below.heap_alloc _ _ _ (hF x hx).2) ho)
      have HOKC := hide ((unhide HOK (w1.alloc (.cells #[.string ty, .int .i64 (ver : Int), .int .i64 t.sort, .int .i64 t.num, .string t.text, .slice ap t.names.length cp, .slice aq t.kids.length cq] 41)).drew (hbA.trans (But.of_below (Below.refl _ _).drew)) ty ver t (· ∈ F) ⟨.int .i64 t.sort, .int .i64 t.num, .string t.text, .slice ap t.names.length cp, .slice aq t.kids.length cq⟩ (fun x hx => by show x < (w1.alloc _).heap.size; rw [World.size_alloc]; have := (hF x hx).2; omega) (Rep.carry (w := w1.alloc (.cells #[.string ty, .int .i64 (ver : Int), .int .i64 t.sort, .int .i64 t.num, .string t.text, .slice ap t.names.length cp, .slice aq t.kids.length cq] 41)) (w' := (w1.alloc (.cells #[.string ty, .int .i64 (ver : Int), .int .i64 t.sort, .int .i64 t.num, .string t.text, .slice ap t.names.length cp, .slice aq t.kids.length cq] 41)).drew) (fun _ _ => rfl) (fun _ h => h) _ _ hrA) (by omega) ⟨by omega, by omega⟩))
      have hle1 := hcu1.le
      have HX1 := hide hX1; have HY1 := hide hY1; have HBA := hide hbA; have HO := hide ho; have HF := hide hF
      have HEQ := hide heq; have HCO := hide hco
      clear hX1 hY1 hbA ho hF hrA heq hco hcA hcu1 hb1 hbw HEV HOK HB0 HX0 r2
      by_cases hcnt : a' = b.length
      · have hq : ((a' : Int) == (b.length : Int)) = true := by simp [hcnt]
        cases hok : evOkB ty ver t with
        | true =>
          rw [hok] at HOKC
          have HUP : Hid (UpE b ty ver t) := ⟨hok, by have := unhide HEQ; rw [hcnt, List.drop_length, List.append_nil] at this; exact this.symm⟩
          clear hok HEQ HCO hcnt
          go_wp2_with fail
          go_region_law (first
            | (rw [if_pos (by first | rfl | simp [Region.wanted])]; go_simp; refine (unhide HOKC).mono ?_
               rintro e w2 ⟨rfl, hb2⟩
               have hbb : Below (w1.alloc (.cells #[.string ty, .int .i64 (ver : Int), .int .i64 t.sort, .int .i64 t.num, .string t.text, .slice ap t.names.length cp, .slice aq t.kids.length cq] 41)).heap.size (w1.alloc (.cells #[.string ty, .int .i64 (ver : Int), .int .i64 t.sort, .int .i64 t.num, .string t.text, .slice ap t.names.length cp, .slice aq t.kids.length cq] 41)) w2 := (Below.refl _ _).drew.trans hb2
               have HBB := hide hbb
               clear hb2 hbb)
            | (rw [if_pos (by first | rfl | simp [Region.wanted])]; go_simp; refine (treeWant_yes _).mono ?_; rintro e w3 ⟨rfl, rfl⟩))
          all_goals
            have hX2 := (unhide HX1).of_block ((unhide HBB).block _ (unhide HX1).lt)
            have hY2 := (unhide HY1).of_block ((unhide HBB).block _ (unhide HY1).lt)
            have p0 := hX2.cell (i := 0) (by omega); have p1 := hX2.cell (i := 1) (by omega); have p2 := hX2.cell (i := 2) (by omega); have p3 := hX2.cell (i := 3) (by omega); have p4 := hX2.cell (i := 4) (by omega); have p5 := hX2.cell (i := 5) (by omega); have p6 := hX2.cell (i := 6) (by omega); have pf := hX2.frozen
            have q0 := hY2.cell (i := 0) (by omega); have q1 := hY2.cell (i := 1) (by omega); have q2 := hY2.cell (i := 2) (by omega); have q3 := hY2.cell (i := 3) (by omega); have q4 := hY2.cell (i := 4) (by omega); have q5 := hY2.cell (i := 5) (by omega); have q6 := hY2.cell (i := 6) (by omega)
            simp only [row7] at p0 p1 p2 p3 p4 p5 p6 q0 q1 q2 q3 q4 q5 q6
            have hs2 := (unhide HBB).size
            rw [World.size_alloc] at hs2
            clear hX2 hY2 y0 y1 y2 y3 y4 y5 y6 m0 m2
            go_wp2_with fail
            refine bodyPost_ret (v := .agg #[.string ty, .int .i64 (ver : Int), .int .i64 t.sort, .int .i64 t.num, .string t.text, .slice ap t.names.length cp, .slice aq t.kids.length cq]) (by simp [results, Tryz.results47, go_sem, p0, p1, p2, p3, p4, p5, p6]) rfl ?_
            refine ⟨?_, Or.inl ⟨ty, ver, t, ⟨_, _, _, _, _⟩, F, rfl, Own.carry _ _ F (fun y hy => by
              have hy2 := unhide HF y hy
              rw [World.size_alloc] at hy2
              repeat rw [Below.heap_setCell _ _ _ _ (by simp <;> omega)]
              rw [(unhide HBB).block y (by rw [World.size_alloc]; omega), Below.heap_alloc _ _ _ hy2.2]) (unhide HO), hnd, fun y hy => ⟨by have := (unhide HF y hy).1; rw [World.size_alloc] at this; omega, by simp only [size_setCell]; have := (unhide HF y hy).2; omega⟩, unhide HUP⟩⟩
            repeat refine but_set ?_ (Nat.le_refl _) _ _
            exact (unhide HBA).trans (But.of_below (unhide HBB))
        | false =>
          rw [hok] at HOKC
          have HNO : Hid (∀ ty0 ver0 t0, ¬ UpE b ty0 ver0 t0) := fun ty0 ver0 t0 hu => by
            obtain ⟨e1, e2, e3, -⟩ := unhide HCO ty0 ver0 t0 [] hu.1 (by rw [List.append_nil]; exact hu.2.symm)
            have h1 := hu.1
            rw [e1, e2, e3, hok] at h1
            cases h1
          clear hok HEQ HCO hcnt
          go_wp2_with fail
          go_region_law (first
            | (rw [if_pos (by first | rfl | simp [Region.wanted])]; go_simp; refine (unhide HOKC).mono ?_
               rintro e w2 ⟨rfl, hb2⟩
               have hbb : Below (w1.alloc (.cells #[.string ty, .int .i64 (ver : Int), .int .i64 t.sort, .int .i64 t.num, .string t.text, .slice ap t.names.length cp, .slice aq t.kids.length cq] 41)).heap.size (w1.alloc (.cells #[.string ty, .int .i64 (ver : Int), .int .i64 t.sort, .int .i64 t.num, .string t.text, .slice ap t.names.length cp, .slice aq t.kids.length cq] 41)) w2 := (Below.refl _ _).drew.trans hb2
               have HBB := hide hbb
               clear hb2 hbb)
            | (rw [if_pos (by first | rfl | simp [Region.wanted])]; go_simp; refine (treeWant_no _).mono ?_; rintro e w3 ⟨rfl, rfl⟩; refine dead_end (by assumption) { tmps := #[], defers := [] } w (And.intro rfl ⟨(unhide HBA).trans (But.of_below (unhide HBB)), Or.inr ⟨rfl, unhide HNO⟩⟩) (fun HF => ?_)))
          all_goals exact (unhide HF).elim
      · have hq : ((a' : Int) == (b.length : Int)) = false := by simp; omega
        have HNO : Hid (∀ ty0 ver0 t0, ¬ UpE b ty0 ver0 t0) := fun ty0 ver0 t0 hu => by
          obtain ⟨-, -, -, e4⟩ := unhide HCO ty0 ver0 t0 [] hu.1 (by rw [List.append_nil]; exact hu.2.symm)
          have := congrArg List.length e4
          simp at this
          omega
        clear HEQ HCO hcnt HOKC
        go_wp2_with fail
        go_region_law (rw [if_pos (by first | rfl | simp [Region.wanted])]; go_simp; refine (treeWant_no _).mono ?_; rintro e w3 ⟨rfl, rfl⟩; refine dead_end (by assumption) { tmps := #[], defers := [] } w (And.intro rfl ⟨(unhide HBA).trans (But.of_below (Below.refl _ _).drew), Or.inr ⟨rfl, unhide HNO⟩⟩) (fun HF => ?_))
        all_goals exact (unhide HF).elim
    · refine ⟨rfl, hbw, Or.inr ⟨rfl, fun ty ver t hu => hno ⟨ty, ver, t, [], hu.1, by rw [List.drop_zero, List.append_nil]; exact hu.2.symm⟩⟩⟩
  · have hle : ¬ ((b.length : Int) ≤ 9000) := by omega
    have HNO : Hid (∀ ty ver t, ¬ UpE b ty ver t) := fun ty ver t hu => by
      obtain ⟨h1, h2⟩ := hu
      have hf := evOk_facts h1
      have := eventB_len (ty := ty) (ver := ver) (t := t) (d := 1) (by omega) hf.2.2.2.2.2.2
      rw [h2] at this
      omega
    have HB0 := hide hb0
    clear hcu h hT hb0
    go_enter Tryz.func47, Tryz.ntmps47
    go_wp2_with fail
    refine (treeWant_no _).mono ?_
    rintro e w2 ⟨rfl, rfl⟩
    exact ⟨rfl, unhide HB0 _, Or.inr ⟨rfl, unhide HNO⟩⟩
end Go.Proofs.YtiflfcjocngiiaaGreatDoor

/- The walk of the program's EventUnpack. Conditions: the table treeFields is as the program lays it. -/

namespace Go.Proofs.YtiflfcjocngiiaaGreatDoor
open Go Go.RowKit

theorem enterUnpack (caps : Array Value) (W : World) : Sem.run Tryz.prog (callFunc 46 caps) W = .ok (.enter 46 caps) W := by
  kernel_rfl

set_option maxRecDepth 100000 in
theorem newCursor_any (w : World) (a : Option Addr) (n cap : Nat) : Calls Tryz.prog 15 #[.slice a n cap] w fun e w' => e = .returned (.pointer (some ⟨w.heap.size, 0, none⟩)) ∧ w' = w.alloc (.cells #[.int .i64 0, .int .i64 (n : Int), .slice a n cap] 59) := by
  go_enter Tryz.func15, Tryz.ntmps15
  go_wp2_with fail
  go_ret
  exact ⟨rfl, rfl⟩

/-- What the closure of EventUnpack finds: the box of the bytes, and the one into which it puts what it reads. -/
structure UbAt (X : Nat) (w : World) (v : Value) (b : List UInt8) : Prop where
  box : w.rowIs X 31 1 (fun _ => v)
  rd : w.rowIs (X + 2) 41 7 (row7 (.string ⟨#[]⟩) (.int .i64 0) (.int .i64 0) (.int .i64 0) (.string ⟨#[]⟩) (.slice none 0 0) (.slice none 0 0))
  row : ByIn w v b
  own : ∀ g, v.ownBlock = some g → g < X
  small : b.length ≤ 1048576

set_option maxRecDepth 100000 in
set_option maxHeartbeats 1600000 in
theorem upWork (X : Nat) (w : World) (v : Value) (b : List UInt8) (h : UbAt X w v b) (hT : Tab w) :
    Calls Tryz.prog 46 #[.pointer (some ⟨X, 0, none⟩), .pointer (some ⟨X + 2, 0, none⟩)] w fun e w' =>
      ((∃ (ty : ByteArray) (ver : Int) (t : Tr) (c : C5) (F : List Nat), e = .returned (.tuple #[]) ∧ w'.rowIs (X + 2) 41 7 (row7 (.string ty) (.int .i64 ver) c.c0 c.c1 c.c2 c.c3 c.c4) ∧ Own w' t c F ∧ F.Nodup ∧ (∀ x, x ∈ F → w.heap.size ≤ x ∧ x < w'.heap.size) ∧ UpE b ty ver t) ∨ (e = fltE ∧ (∀ ty ver t, ¬ UpE b ty ver t) ∧ w'.heap[X + 2]? = w.heap[X + 2]?)) ∧ But (X + 2) w w' := by
  obtain ⟨a, cap, hv⟩ := h.row.slice
  subst hv
  have x0 := h.box.cell (i := 0) (by omega)
  have hlt := h.rd.lt
  have hcu : Cu w.heap.size (w.alloc (.cells #[.int .i64 0, .int .i64 (b.length : Int), .slice a b.length cap] 59)) (.slice a b.length cap) b 0 :=
    ⟨row3_alloc w _ _ _ _, ByIn.alloc h.row _, fun g e => by have := h.own g e; omega, Nat.zero_le _, h.small⟩
  have hTa := hT.of_block (w' := w.alloc (.cells #[.int .i64 0, .int .i64 (b.length : Int), .slice a b.length cap] 59)) (Below.heap_alloc _ _ _ hT.lt)
  have HW := hide (wholeP_any w.heap.size _ _ b hcu hTa hT.lt)
  have HRD := hide (h.rd.alloc (.cells #[.int .i64 0, .int .i64 (b.length : Int), .slice a b.length cap] 59))
  clear hcu hTa h hT
  go_enter Tryz.func46, Tryz.ntmps46
  go_wp2_with (go_at_call 15; refine (newCursor_any _ _ _ _).mono ?_; rintro e w' ⟨rfl, rfl⟩)
  refine (unhide HW).mono ?_
  rintro e w1 ⟨hb1, hc⟩
  have hrd1 := (unhide HRD).of_block (hb1.at (unhide HRD).lt (by omega))
  have hbw : Below w.heap.size w w1 := ⟨hb1.os, hb1.tape, hb1.output, by have := hb1.size; rw [World.size_alloc] at this; omega, fun i hi => (hb1.at (by rw [World.size_alloc]; omega) (by omega)).trans (Below.heap_alloc _ _ _ hi)⟩
  rcases hc with ⟨ty, ver, t, ⟨c0, c1, c2, c3, c4⟩, F, rfl, ho, hnd, hF, hu⟩ | ⟨rfl, hno⟩
  · obtain ⟨g0, g1, g2, -, -, -, F1, F2, -, ⟨ap, cp, g3, -⟩, aq, cq, g4, -⟩ := ho.open
    simp only at g0 g1 g2 g3 g4
    subst g0 g1 g2 g3 g4
    have p0 := hrd1.cell (i := 0) (by omega); have p1 := hrd1.cell (i := 1) (by omega); have p2 := hrd1.cell (i := 2) (by omega); have p3 := hrd1.cell (i := 3) (by omega); have p4 := hrd1.cell (i := 4) (by omega); have p5 := hrd1.cell (i := 5) (by omega); have p6 := hrd1.cell (i := 6) (by omega); have pf := hrd1.frozen
    simp only [row7] at p0 p1 p2 p3 p4 p5 p6
    have HR1 := hide hrd1; have HBW := hide hbw; have HO := hide ho; have HF := hide hF; have HU := hide hu
    clear hrd1 hbw ho hF hb1 HW HRD hu
    go_wp2_with fail
    go_end0
    have hsz := (unhide HBW).size
    refine ⟨Or.inl ⟨ty, ver, t, ⟨.int .i64 t.sort, .int .i64 t.num, .string t.text, .slice ap t.names.length cp, .slice aq t.kids.length cq⟩, F, rfl, ?_, Own.carry _ _ F (fun y hy => ?_) (unhide HO), hnd, fun y hy => ⟨by have := (unhide HF y hy).1; rw [World.size_alloc] at this; omega, by simp only [size_setCell]; exact (unhide HF y hy).2⟩, unhide HU⟩, ?_⟩
    · have := (((((((unhide HR1).set 0 (.string ty)).set 1 (.int .i64 ver)).set 2 (.int .i64 t.sort)).set 3 (.int .i64 t.num)).set 4 (.string t.text)).set 5 (.slice ap t.names.length cp)).set 6 (.slice aq t.kids.length cq)
      exact this.congr (fun i hi => by rcases (show i = 0 ∨ i = 1 ∨ i = 2 ∨ i = 3 ∨ i = 4 ∨ i = 5 ∨ i = 6 by omega) with rfl | rfl | rfl | rfl | rfl | rfl | rfl <;> rfl)
    · have := (unhide HF y hy).1
      rw [World.size_alloc] at this
      repeat rw [Below.heap_setCell _ _ _ _ (by simp <;> omega)]
    · refine (But.of_below (unhide HBW)).trans ?_
      exact (((((((But.set (B := X + 2) w1 0 _).trans (But.set _ 1 _)).trans (But.set _ 2 _)).trans (But.set _ 3 _)).trans (But.set _ 4 _)).trans (But.set _ 5 _)).trans (But.set _ 6 _))
  · exact ⟨rfl, Or.inr ⟨rfl, hno, hbw.block _ hlt⟩, But.of_below hbw⟩
end Go.Proofs.YtiflfcjocngiiaaGreatDoor

/- The walk of the program's EventUnpack, its closure by its contract. Conditions: the table treeFields is as the program lays it. -/

namespace Go.Proofs.YtiflfcjocngiiaaGreatDoor
open Go Go.RowKit

/-- What EventUnpack comes to, the program's and the specification's. -/
def UpEnd (w w' : World) (b : List UInt8) (e : Ending) : Prop :=
  Below w.heap.size w w' ∧ ((∃ (ty : ByteArray) (ver : Int) (t : Tr) (c : C5) (F : List Nat), e = .returned (.tuple #[.agg #[.string ty, .int .i64 ver, c.c0, c.c1, c.c2, c.c3, c.c4], .bool true]) ∧ Own w' t c F ∧ F.Nodup ∧ (∀ x, x ∈ F → w.heap.size ≤ x ∧ x < w'.heap.size) ∧ UpE b ty ver t)
    ∨ (e = .returned (.tuple #[.agg #[.string ⟨#[]⟩, .int .i64 0, .int .i64 0, .int .i64 0, .string ⟨#[]⟩, .slice none 0 0, .slice none 0 0], .bool false]) ∧ ∀ ty ver t, ¬ UpE b ty ver t))

theorem ub_start (w : World) (v : Value) (b : List UInt8) (hr : ByIn w v b) (hs : b.length ≤ 1048576) : UbAt w.heap.size (((w.alloc (.cells #[v] 31)).alloc ev0).alloc ev0) v b := by
  have h1 : (w.alloc (.cells #[v] 31)).rowIs w.heap.size 31 1 (fun _ => v) := World.rowIs_alloc w #[v] _ _ (fun i hi => by
    have hi' : i < 1 := hi
    match i, hi' with
    | 0, _ => rfl)
  refine ⟨(h1.alloc _).alloc _, ?_, ((hr.alloc _).alloc _).alloc _, fun g e => (hr.own g e).2, hs⟩
  have := row7_alloc ((w.alloc (.cells #[v] 31)).alloc ev0) (.string ⟨#[]⟩) (.int .i64 0) (.int .i64 0) (.int .i64 0) (.string ⟨#[]⟩) (.slice none 0 0) (.slice none 0 0) 41
  rw [World.size_alloc, World.size_alloc] at this
  exact this
theorem UbAt.on {X : Nat} {w w' : World} {v : Value} {b : List UInt8} (h : UbAt X w v b) (hb : Below w.heap.size w w') : UbAt X w' v b :=
  ⟨h.box.of_block (hb.block _ h.box.lt), h.rd.of_block (hb.block _ h.rd.lt), h.row.stay hb, h.own, h.small⟩

set_option maxRecDepth 100000 in
set_option maxHeartbeats 1600000 in
theorem implEventUnpack_in (w : World) (v : Value) (b : List UInt8) (hr : ByIn w v b) (hs : b.length ≤ 1048576) (hT : Tab w) :
    Calls Tryz.prog 30 #[v] w fun e w' => UpEnd w w' b e := by
  have hmf : ∀ (fn : Fn) (first cap : Array Value) (w : World), (Instr.makeFunc fn first cap).run Tryz.prog w = .ok (.func fn first cap) w := fun _ _ _ _ => rfl
  have hub := ub_start w v b hr hs
  have hb3 : Below w.heap.size w (((w.alloc (.cells #[v] 31)).alloc ev0).alloc ev0) := (((Below.refl _ _).alloc (Nat.le_refl _) _).alloc (by simp) _).alloc (by simp; omega) _
  have hX1 : (((w.alloc (.cells #[v] 31)).alloc ev0).alloc ev0).rowIs (w.heap.size + 1) 41 7 (row7 (.string ⟨#[]⟩) (.int .i64 0) (.int .i64 0) (.int .i64 0) (.string ⟨#[]⟩) (.slice none 0 0) (.slice none 0 0)) := by
    have := (row7_alloc (w.alloc (.cells #[v] 31)) (.string ⟨#[]⟩) (.int .i64 0) (.int .i64 0) (.int .i64 0) (.string ⟨#[]⟩) (.slice none 0 0) (.slice none 0 0) 41).alloc ev0
    rw [World.size_alloc] at this
    exact this
  have hsz3 : (((w.alloc (.cells #[v] 31)).alloc ev0).alloc ev0).heap.size = w.heap.size + 3 := by simp
  have hTW := hT.of_block (hb3.block 0 hT.lt)
  have hwork := fun (o : Obj) => upWork w.heap.size ((((w.alloc (.cells #[v] 31)).alloc ev0).alloc ev0).alloc o) v b (hub.on ((Below.refl _ _).alloc (Nat.le_refl _) o)) (hTW.of_block (Below.heap_alloc _ _ _ hTW.lt))
  obtain ⟨a, cap, hv⟩ := hr.slice
  subst hv
  by_cases hex : ∃ ty ver t, UpE b ty ver t
  · have htry := treeTry_yes2 46 #[.pointer (some ⟨w.heap.size, 0, none⟩), .pointer (some ⟨w.heap.size + 2, 0, none⟩)] (((w.alloc (.cells #[.slice a b.length cap] 31)).alloc ev0).alloc ev0)
      (fun w1 => ∃ (ty : ByteArray) (ver : Int) (t : Tr) (c : C5) (F : List Nat), w1.rowIs (w.heap.size + 2) 41 7 (row7 (.string ty) (.int .i64 ver) c.c0 c.c1 c.c2 c.c3 c.c4) ∧ Own w1 t c F ∧ F.Nodup ∧ (∀ x, x ∈ F → w.heap.size + 4 ≤ x ∧ x < w1.heap.size) ∧ UpE b ty ver t ∧ But (w.heap.size + 2) ((((w.alloc (.cells #[.slice a b.length cap] 31)).alloc ev0).alloc ev0).alloc (.cells #[.bool false] 4)) w1)
      (enterUnpack _) (by
        refine (hwork (.cells #[.bool false] 4)).mono ?_
        rintro e w1 ⟨hc, hb1⟩
        rcases hc with ⟨ty, ver, t, c, F, rfl, h1, h2, h3, h4, h5⟩ | ⟨-, hno, -⟩
        · refine ⟨rfl, ⟨ty, ver, t, c, F, h1, h2, h3, fun x hx => ⟨by have := (h4 x hx).1; rw [World.size_alloc, hsz3] at this; omega, (h4 x hx).2⟩, h5, hb1⟩, ?_⟩
          exact hb1.at (by simp) (by rw [hsz3]; omega)
        · obtain ⟨ty, ver, t, hu⟩ := hex
          exact absurd hu (hno ty ver t))
    have HTRY := hide htry; have HB3 := hide hb3; have HX1 := hide hX1; have HS3 := hide hsz3
    clear htry hwork hub hb3 hX1 hTW hT hr hsz3 hex
    go_enter Tryz.func30, Tryz.ntmps30
    go_wp2_with fail
    refine (unhide HTRY).mono ?_
    rintro e w4 ⟨rfl, w1, ⟨ty, ver, t, ⟨c0, c1, c2, c3, c4⟩, F, hrd, ho, hnd, hF, hu, hb1⟩, hb4⟩
    have hsz := unhide HS3
    have hs1 := hb1.size
    rw [World.size_alloc, hsz] at hs1
    have hs4 := hb4.size
    rw [hsz] at hb4
    obtain ⟨g0, g1, g2, -, -, -, F1, F2, -, ⟨ap, cp, g3, -⟩, aq, cq, g4, -⟩ := ho.open
    simp only at g0 g1 g2 g3 g4
    subst g0 g1 g2 g3 g4
    have hrd4 := hrd.of_block (hb4.at hrd.lt (by omega))
    have hX4 := (((unhide HX1).alloc (.cells #[.bool false] 4)).of_block (hb1.at ((unhide HX1).alloc _).lt (by omega))).of_block (hb4.at (by omega) (by omega))
    have ho4 := Own.carry t _ F (fun x hx => hb4.at (hF x hx).2 (by have := (hF x hx).1; omega)) ho
    have hbw4 : Below w.heap.size w w4 := by
      refine (unhide HB3).trans ⟨hb4.os.trans hb1.os, hb4.tape.trans hb1.tape, hb4.output.trans hb1.output, by rw [hsz]; omega, fun i hi => ?_⟩
      exact (hb4.at (by omega) (by omega)).trans ((hb1.at (by rw [World.size_alloc, hsz]; omega) (by omega)).trans (Below.heap_alloc _ _ _ (by rw [hsz]; omega)))
    have p0 := hX4.cell (i := 0) (by omega); have p1 := hX4.cell (i := 1) (by omega); have p2 := hX4.cell (i := 2) (by omega); have p3 := hX4.cell (i := 3) (by omega); have p4 := hX4.cell (i := 4) (by omega); have p5 := hX4.cell (i := 5) (by omega); have p6 := hX4.cell (i := 6) (by omega); have pf := hX4.frozen
    have q0 := hrd4.cell (i := 0) (by omega); have q1 := hrd4.cell (i := 1) (by omega); have q2 := hrd4.cell (i := 2) (by omega); have q3 := hrd4.cell (i := 3) (by omega); have q4 := hrd4.cell (i := 4) (by omega); have q5 := hrd4.cell (i := 5) (by omega); have q6 := hrd4.cell (i := 6) (by omega)
    simp only [row7] at p0 p1 p2 p3 p4 p5 p6 q0 q1 q2 q3 q4 q5 q6
    have HO := hide ho4; have HBW := hide hbw4; have HF := hide hF; have HU := hide hu; have HLT := hide (show w1.heap.size ≤ w4.heap.size from hs4)
    clear hrd4 hX4 ho4 hbw4 hF hb1 hb4 hrd ho HTRY HB3 HX1 hs1 hs4 hsz hu
    go_wp2_with fail
    refine bodyPost_ret (v := .tuple #[.agg #[.string ty, .int .i64 ver, .int .i64 t.sort, .int .i64 t.num, .string t.text, .slice ap t.names.length cp, .slice aq t.kids.length cq], .bool true]) (by simp [results, Tryz.results30, go_sem, p0, p1, p2, p3, p4, p5, p6]) rfl ?_
    refine ⟨?_, Or.inl ⟨ty, ver, t, ⟨_, _, _, _, _⟩, F, rfl, Own.carry _ _ F (fun y hy => by have := (unhide HF y hy).1; repeat rw [Below.heap_setCell _ _ _ _ (by simp <;> omega)]) (unhide HO), hnd, fun y hy => ⟨by have := (unhide HF y hy).1; omega, by simp only [size_setCell]; have := (unhide HF y hy).2; have := unhide HLT; omega⟩, unhide HU⟩⟩
    repeat refine Below.setCell ?_ (by simp <;> omega) _
    exact unhide HBW
  · have hno : ∀ ty ver t, ¬ UpE b ty ver t := fun ty ver t hu => hex ⟨ty, ver, t, hu⟩
    have htry := treeTry_no2 46 #[.pointer (some ⟨w.heap.size, 0, none⟩), .pointer (some ⟨w.heap.size + 2, 0, none⟩)] (((w.alloc (.cells #[.slice a b.length cap] 31)).alloc ev0).alloc ev0)
      (fun w1 => w1.heap[w.heap.size + 2]? = ((((w.alloc (.cells #[.slice a b.length cap] 31)).alloc ev0).alloc ev0).alloc (.cells #[.bool false] 4)).heap[w.heap.size + 2]? ∧ But (w.heap.size + 2) ((((w.alloc (.cells #[.slice a b.length cap] 31)).alloc ev0).alloc ev0).alloc (.cells #[.bool false] 4)) w1)
      (enterUnpack _) (by
        refine (hwork (.cells #[.bool false] 4)).mono ?_
        rintro e w1 ⟨hc, hb1⟩
        rcases hc with ⟨ty, ver, t, c, F, rfl, h1, h2, h3, h4, h5⟩ | ⟨rfl, -, h2⟩
        · exact absurd h5 (hno ty ver t)
        · exact ⟨rfl, ⟨h2, hb1⟩, hb1.at (by simp) (by rw [hsz3]; omega)⟩)
    have HTRY := hide htry; have HB3 := hide hb3; have HX1 := hide hX1; have HS3 := hide hsz3; have HRD := hide hub.rd; have HNO := hide hno
    clear htry hwork hub hb3 hX1 hTW hT hr hsz3 hex hno
    go_enter Tryz.func30, Tryz.ntmps30
    go_wp2_with fail
    refine (unhide HTRY).mono ?_
    rintro e w4 ⟨rfl, w1, ⟨hrdb, hb1⟩, hb4⟩
    have hsz := unhide HS3
    have hs1 := hb1.size
    rw [World.size_alloc, hsz] at hs1
    have hs4 := hb4.size
    rw [hsz] at hb4
    have hrd4 := (((unhide HRD).alloc (.cells #[.bool false] 4)).of_block hrdb).of_block (hb4.at (by omega) (by omega))
    have hX4 := (((unhide HX1).alloc (.cells #[.bool false] 4)).of_block (hb1.at ((unhide HX1).alloc _).lt (by omega))).of_block (hb4.at (by omega) (by omega))
    have hbw4 : Below w.heap.size w w4 := by
      refine (unhide HB3).trans ⟨hb4.os.trans hb1.os, hb4.tape.trans hb1.tape, hb4.output.trans hb1.output, by rw [hsz]; omega, fun i hi => ?_⟩
      exact (hb4.at (by omega) (by omega)).trans ((hb1.at (by rw [World.size_alloc, hsz]; omega) (by omega)).trans (Below.heap_alloc _ _ _ (by rw [hsz]; omega)))
    have p0 := hX4.cell (i := 0) (by omega); have p1 := hX4.cell (i := 1) (by omega); have p2 := hX4.cell (i := 2) (by omega); have p3 := hX4.cell (i := 3) (by omega); have p4 := hX4.cell (i := 4) (by omega); have p5 := hX4.cell (i := 5) (by omega); have p6 := hX4.cell (i := 6) (by omega); have pf := hX4.frozen
    have q0 := hrd4.cell (i := 0) (by omega); have q1 := hrd4.cell (i := 1) (by omega); have q2 := hrd4.cell (i := 2) (by omega); have q3 := hrd4.cell (i := 3) (by omega); have q4 := hrd4.cell (i := 4) (by omega); have q5 := hrd4.cell (i := 5) (by omega); have q6 := hrd4.cell (i := 6) (by omega)
    simp only [row7] at p0 p1 p2 p3 p4 p5 p6 q0 q1 q2 q3 q4 q5 q6
    have HBW := hide hbw4
    clear hrd4 hX4 hbw4 hb1 hb4 HTRY HB3 HX1 hs1 hs4 hsz HRD hrdb
    go_wp2_with fail
    refine bodyPost_ret (v := .tuple #[.agg #[.string ⟨#[]⟩, .int .i64 0, .int .i64 0, .int .i64 0, .string ⟨#[]⟩, .slice none 0 0, .slice none 0 0], .bool false]) (by simp [results, Tryz.results30, go_sem, p0, p1, p2, p3, p4, p5, p6]) rfl ?_
    refine ⟨?_, Or.inr ⟨rfl, unhide HNO⟩⟩
    repeat refine Below.setCell ?_ (by simp <;> omega) _
    exact unhide HBW
end Go.Proofs.YtiflfcjocngiiaaGreatDoor
