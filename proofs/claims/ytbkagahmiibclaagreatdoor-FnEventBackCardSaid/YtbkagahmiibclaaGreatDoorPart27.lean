/- The walk of the program's EventPack. Conditions: the table treeFields is as the program lays it. -/
import Derived.Test.YtbkagahmiibclaaGreatDoorPart26
import Derived.Test.YtbkagahmiibclaaGreatDoorPart23
import Derived.Test.YtbkagahmiibclaaGreatDoorPart12
namespace Go.Proofs.YtbkagahmiibclaaGreatDoor
open Go Go.RowKit

/-- What EventPack's world holds: the event's box, the writer, the writer's address. -/
structure PkAt (base : Nat) (w : World) (ty : ByteArray) (ver : Int) (c : C5) (v : Value) (l : List UInt8) : Prop where
  box : w.rowIs base 28 7 (row7 (.string ty) (.int .i64 ver) c.c0 c.c1 c.c2 c.c3 c.c4)
  wr : Wr base (base + 1) w v l
  ptr : w.rowIs (base + 1 + 1) 48 1 (fun _ => .pointer (some ⟨base + 1, 0, none⟩))

theorem PkAt.on {base : Nat} {w w' : World} {ty : ByteArray} {ver : Int} {c : C5} {v : Value} {l : List UInt8} (h : PkAt base w ty ver c v l) (hb : Below w.heap.size w w') : PkAt base w' ty ver c v l :=
  ⟨h.box.of_block (hb.block _ h.box.lt), ⟨h.wr.cells.of_block (hb.block _ h.wr.cells.lt), h.wr.row.stay hb, h.wr.lt⟩, h.ptr.of_block (hb.block _ h.ptr.lt)⟩

theorem row1_alloc (w : World) (x : Value) (t : TypeId) : (w.alloc (.cells #[x] t)).rowIs w.heap.size t 1 (fun _ => x) :=
  World.rowIs_alloc w #[x] t _ (fun i hi => by
    have hi' : i < 1 := hi
    match i, hi' with
    | 0, _ => rfl)

theorem PkAt.start (w : World) (ty : ByteArray) (ver : Int) (c0 c1 c2 c3 c4 : Value) : PkAt w.heap.size (((w.alloc (.cells #[.string ty, .int .i64 ver, c0, c1, c2, c3, c4] 28)).alloc (.cells #[.int .i64 0, .int .i64 9000, .slice none 0 0] 55)).alloc (.cells #[.pointer (some ⟨w.heap.size + 1, 0, none⟩)] 48)) ty ver ⟨c0, c1, c2, c3, c4⟩ (.slice none 0 0) [] := by
  refine ⟨((row7_alloc w (.string ty) (.int .i64 ver) c0 c1 c2 c3 c4 _).alloc _).alloc _, ⟨?_, ⟨rfl, Or.inl ⟨rfl, rfl⟩⟩, Nat.le_succ _⟩, ?_⟩
  · have := (row3_alloc (w.alloc (.cells #[.string ty, .int .i64 ver, c0, c1, c2, c3, c4] 28)) (.int .i64 0) (.int .i64 9000) (.slice none 0 0) 55).alloc (.cells #[.pointer (some ⟨w.heap.size + 1, 0, none⟩)] 48)
    rw [World.size_alloc] at this
    exact this
  · have := row1_alloc ((w.alloc (.cells #[.string ty, .int .i64 ver, c0, c1, c2, c3, c4] 28)).alloc (.cells #[.int .i64 0, .int .i64 9000, .slice none 0 0] 55)) (.pointer (some ⟨w.heap.size + 1, 0, none⟩)) 48
    rw [World.size_alloc, World.size_alloc] at this
    exact this

set_option maxRecDepth 100000 in
/-- treeTry over EventPack's work, where the event is ok. -/
theorem packTry_any (ty : ByteArray) (ver : Int) (t : Tr) (P : Nat → Prop) (c : C5) (base : Nat) (w : World) (hP : ∀ b, P b → b < base) (hrep : Rep P w t c) (hok : evOkB ty ver t = true) (h : PkAt base w ty ver c (.slice none 0 0) []) :
    Calls Tryz.prog 27 #[.func (.func 28) #[] #[.pointer (some ⟨base + 1 + 1, 0, none⟩), .pointer (some ⟨base, 0, none⟩)]] w fun e w' =>
      e = .returned (.bool true) ∧ (∃ a n cap, n = (eventB ty ver t).length ∧ PkAt base w' ty ver c (.slice a n cap) (eventB ty ver t)) ∧ Below base w w' := by
  obtain ⟨-, h8, -, -, -, hpt⟩ := evOk_parts hok
  have hlen : ([] : List UInt8).length + (eventB ty ver t).length ≤ 9000 := by have := eventB_len (ver := ver) h8 hpt; simpa using this
  have hpl := h.ptr.lt
  have hb0 : Below w.heap.size w (w.alloc (.cells #[.bool false] 4)) := (Below.refl _ _).alloc (Nat.le_refl _) _
  have h1 := h.on hb0
  have hrep1 : Rep P (w.alloc (.cells #[.bool false] 4)) t c := Rep.carry (fun b hb => hb0.block b (by have := hP b hb; omega)) (fun _ h => h) _ _ hrep
  have hbl := row1_alloc w (.bool false) 4
  refine (treeTry_yes2 28 _ w (fun w1 => Sp base (base + 1) (w.alloc (.cells #[.bool false] 4)) w1 ∧ ∃ a n cap, n = (eventB ty ver t).length ∧ Wr base (base + 1) w1 (.slice a n cap) (eventB ty ver t)) (enterPack _) ?_).mono ?_
  · refine (packWork_any ty ver t P c base (base + 1) base (base + 1 + 1) _ none 0 0 [] hP hrep1 hok h1.wr hlen h1.box h1.ptr).mono ?_
    rintro e w' ⟨he, hsp, hend⟩
    rw [List.nil_append] at hend
    refine ⟨he, ⟨hsp, hend⟩, ?_⟩
    exact hsp.block _ hbl.lt (by omega) (Or.inr fun cs f e => by
      obtain ⟨c', hb', _⟩ := hbl
      rw [e] at hb'
      simp at hb')
  · rintro e w' ⟨rfl, w1, ⟨hsp, a, n, cap, hn, hw⟩, hb⟩
    have hs1 := hsp.size
    rw [World.size_alloc] at hs1
    have hbl1 : w1.rowIs w.heap.size 4 1 (fun _ => .bool false) := hsp.box hbl (by omega) (by decide)
    have hne : (Value.slice a n cap).ownBlock ≠ some w.heap.size := ByRow.apart hw.row hbl1 (by decide)
    have hbox1 := hsp.box h1.box (by omega) (by decide)
    have hptr1 := hsp.box h1.ptr (by omega) (by decide)
    refine ⟨rfl, ⟨a, n, cap, hn, hbox1.of_block (hb.at hbox1.lt (by omega)), ⟨hw.cells.of_block (hb.at hw.cells.lt (by omega)), World.ownsRow.kept hw.row hb (Or.inr hne), hw.lt⟩, hptr1.of_block (hb.at hptr1.lt (by omega))⟩, ?_⟩
    have hlow : Below base w w1 := ((Below.refl base w).alloc (by omega) (.cells #[.bool false] 4)).trans (hsp.below (by omega) (by simp; omega))
    exact ⟨hb.os.trans hlow.os, hb.tape.trans hlow.tape, hb.output.trans hlow.output, Nat.le_trans hlow.size hb.size, fun b hbb => (hb.at (by omega) (by omega)).trans (hlow.block b hbb)⟩

set_option maxRecDepth 100000 in
theorem newWriter_any (w : World) : Calls Tryz.prog 26 #[.int .i64 9000] w fun e w' => e = .returned (.pointer (some ⟨w.heap.size, 0, none⟩)) ∧ w' = w.alloc (.cells #[.int .i64 0, .int .i64 9000, .slice none 0 0] 55) := by
  go_enter Tryz.func26, Tryz.ntmps26
  go_wp2_with fail
  go_ret
  exact ⟨rfl, rfl⟩

set_option maxRecDepth 100000 in
set_option maxHeartbeats 1600000 in
theorem implEventPack_any (ty : ByteArray) (ver : Int) (t : Tr) (P : Nat → Prop) (c : C5) (w : World) (hP : ∀ b, P b → b < w.heap.size) (hrep : Rep P w t c) (hty : ty.size ≤ 9223372036854775807) (hver : I64 ver) (hT : Tab w) :
    Calls Tryz.prog 8 #[.agg #[.string ty, .int .i64 ver, c.c0, c.c1, c.c2, c.c3, c.c4]] w fun e w' => ByNew w w' e (packB ty ver t) := by
  have hmf : ∀ (fn : Fn) (first cap : Array Value) (w : World), (Instr.makeFunc fn first cap).run Tryz.prog w = .ok (.func fn first cap) w := fun _ _ _ _ => rfl
  obtain ⟨c0, c1, c2, c3, c4⟩ := c
  have hok := fun (W : World) (hW : Below w.heap.size w W) => implEventOk_any ty ver t P ⟨c0, c1, c2, c3, c4⟩ W (fun b hb => Nat.lt_of_lt_of_le (hP b hb) hW.size) (Rep.carry (fun b hb => hW.block b (hP b hb)) (fun _ h => h) _ _ hrep) hty hver (hT.of_block (hW.block 1 hT.lt))
  have hbx : ∀ o o2 o3, Below w.heap.size w (((w.alloc o).alloc o2).alloc o3) := fun o o2 o3 => (((Below.refl _ _).alloc (Nat.le_refl _) o).alloc (by simp) o2).alloc (by simp; omega) o3
  have HST := hide (PkAt.start w ty ver c0 c1 c2 c3 c4)
  have HTRY := hide (fun (W : World) (hW : Below w.heap.size w W) (hk : evOkB ty ver t = true) (h : PkAt w.heap.size W ty ver ⟨c0, c1, c2, c3, c4⟩ (.slice none 0 0) []) => packTry_any ty ver t P ⟨c0, c1, c2, c3, c4⟩ w.heap.size W hP (Rep.carry (fun b hb => hW.block b (hP b hb)) (fun _ h => h) _ _ hrep) hk h)
  have HOK := hide hok; have HBX := hide hbx
  clear hok hbx hP hrep hT hty hver
  by_cases h : evOkB ty ver t = true
  · have HE : Hid (packB ty ver t = eventB ty ver t) := by show packB ty ver t = _; rw [packB, if_pos h]
    have HK := hide h
    rw [h] at HOK
    clear h
    go_enter Tryz.func8, Tryz.ntmps8
    go_wp2_with (go_at_call 26; refine (newWriter_any _).mono ?_; rintro e w' ⟨rfl, rfl⟩)
    refine (unhide HOK _ (unhide HBX _ _ _)).mono ?_
    rintro e w2 ⟨rfl, hb2⟩
    have HP2 := hide ((unhide HST).on hb2)
    have HB2 := hide ((unhide HBX _ _ _).trans (hb2.mono (unhide HBX _ _ _).size))
    clear hb2 HOK HST HBX
    have HT := hide (unhide HTRY w2 (unhide HB2) (unhide HK) (unhide HP2))
    clear HTRY HP2
    go_wp2_with fail
    refine (unhide HT).mono ?_
    rintro e w3 ⟨rfl, ⟨a, n, cap, hn, hp3⟩, hb3⟩
    have y0 := hp3.ptr.cell (i := 0) (by omega)
    have r2 := hp3.wr.cells.cell (i := 2) (by omega)
    simp only [row3] at y0 r2
    have HP3 := hide hp3; have HB3 := hide ((unhide HB2).trans hb3); have HN := hide hn
    clear hp3 hb3 hn HT HB2
    go_wp2_with fail
    go_ret
    rw [HE.out]
    exact ⟨a, n, cap, rfl, unhide HN, (unhide HP3).wr.row, unhide HB3⟩
  · have HE : Hid (packB ty ver t = []) := by show packB ty ver t = _; rw [packB, if_neg h]
    have hf : evOkB ty ver t = false := by simpa using h
    rw [hf] at HOK
    clear h hf HTRY
    go_enter Tryz.func8, Tryz.ntmps8
    go_wp2_with (go_at_call 26; refine (newWriter_any _).mono ?_; rintro e w' ⟨rfl, rfl⟩)
    refine (unhide HOK _ (unhide HBX _ _ _)).mono ?_
    rintro e w2 ⟨rfl, hb2⟩
    have HB2 := hide ((unhide HBX _ _ _).trans (hb2.mono (unhide HBX _ _ _).size))
    clear hb2 HOK HST HBX
    go_wp2_with fail
    go_ret
    rw [HE.out]
    exact ⟨none, 0, 0, rfl, rfl, ⟨rfl, Or.inl ⟨rfl, rfl⟩⟩, unhide HB2⟩
end Go.Proofs.YtbkagahmiibclaaGreatDoor

/- The walk of the program's EventUnpack. Conditions: the table treeFields is as the program lays it. -/

namespace Go.Proofs.YtbkagahmiibclaaGreatDoor
open Go Go.RowKit

theorem enterUnpack (caps : Array Value) (W : World) : Sem.run Tryz.prog (callFunc 36 caps) W = .ok (.enter 36 caps) W := by
  kernel_rfl

set_option maxRecDepth 100000 in
theorem newCursor_any (w : World) (a : Option Addr) (n cap : Nat) : Calls Tryz.prog 37 #[.slice a n cap] w fun e w' => e = .returned (.pointer (some ⟨w.heap.size, 0, none⟩)) ∧ w' = w.alloc (.cells #[.int .i64 0, .int .i64 (n : Int), .slice a n cap] 98) := by
  go_enter Tryz.func37, Tryz.ntmps37
  go_wp2_with fail
  go_ret
  exact ⟨rfl, rfl⟩

/-- What the closure of EventUnpack finds: the box of the bytes, and the one into which it puts what it reads. -/
structure UbAt (X : Nat) (w : World) (v : Value) (b : List UInt8) : Prop where
  box : w.rowIs X 22 1 (fun _ => v)
  rd : w.rowIs (X + 2) 28 7 (row7 (.string ⟨#[]⟩) (.int .i64 0) (.int .i64 0) (.int .i64 0) (.string ⟨#[]⟩) (.slice none 0 0) (.slice none 0 0))
  row : ByRow 0 w v b
  own : ∀ g, v.ownBlock = some g → g < X
  small : b.length ≤ 1048576

set_option maxRecDepth 100000 in
set_option maxHeartbeats 1600000 in
theorem upWork (X : Nat) (w : World) (v : Value) (b : List UInt8) (h : UbAt X w v b) (hT : Tab w) :
    Calls Tryz.prog 36 #[.pointer (some ⟨X, 0, none⟩), .pointer (some ⟨X + 2, 0, none⟩)] w fun e w' =>
      ((∃ (ty : ByteArray) (ver : Int) (t : Tr) (c : C5) (F : List Nat), e = .returned (.tuple #[]) ∧ w'.rowIs (X + 2) 28 7 (row7 (.string ty) (.int .i64 ver) c.c0 c.c1 c.c2 c.c3 c.c4) ∧ Own w' t c F ∧ F.Nodup ∧ (∀ x, x ∈ F → w.heap.size ≤ x ∧ x < w'.heap.size) ∧ UpE b ty ver t) ∨ (e = fltE ∧ (∀ ty ver t, ¬ UpE b ty ver t) ∧ w'.heap[X + 2]? = w.heap[X + 2]?)) ∧ But (X + 2) w w' := by
  obtain ⟨a, cap, hv⟩ := h.row.slice
  subst hv
  have x0 := h.box.cell (i := 0) (by omega)
  have hlt := h.rd.lt
  have hcu : Cu w.heap.size (w.alloc (.cells #[.int .i64 0, .int .i64 (b.length : Int), .slice a b.length cap] 98)) (.slice a b.length cap) b 0 :=
    ⟨row3_alloc w _ _ _ _, World.ownsRow.alloc h.row _, fun g e => by have := h.own g e; omega, Nat.zero_le _, h.small⟩
  have hTa := hT.of_block (w' := w.alloc (.cells #[.int .i64 0, .int .i64 (b.length : Int), .slice a b.length cap] 98)) (Below.heap_alloc _ _ _ hT.lt)
  have HW := hide (wholeP_any w.heap.size _ _ b hcu hTa hT.lt)
  have HRD := hide (h.rd.alloc (.cells #[.int .i64 0, .int .i64 (b.length : Int), .slice a b.length cap] 98))
  clear hcu hTa h hT
  go_enter Tryz.func36, Tryz.ntmps36
  go_wp2_with (go_at_call 37; refine (newCursor_any _ _ _ _).mono ?_; rintro e w' ⟨rfl, rfl⟩)
  refine (unhide HW).mono ?_
  rintro e w1 ⟨hb1, hc⟩
  have hrd1 := (unhide HRD).of_block (hb1.at (unhide HRD).lt (by omega))
  have hbw : Below w.heap.size w w1 := ⟨hb1.os, hb1.tape, hb1.output, by have := hb1.size; rw [World.size_alloc] at this; omega, fun i hi => (hb1.at (by rw [World.size_alloc]; omega) (by omega)).trans (Below.heap_alloc _ _ _ hi)⟩
  rcases hc with ⟨ty, ver, t, ⟨c0, c1, c2, c3, c4⟩, F, rfl, ho, hnd, hF, hu⟩ | ⟨rfl, hno⟩
  · obtain ⟨g0, g1, g2, -, -, -, F1, F2, -, ⟨ap, cp, g3, -⟩, aq, cq, g4, -⟩ := ho.open
    simp only at g0 g1 g2 g3 g4
    subst g0 g1 g2 g3 g4
    have p0 := hrd1.cell (i := 0) (by omega); have p1 := hrd1.cell (i := 1) (by omega); have p2 := hrd1.cell (i := 2) (by omega); have p3 := hrd1.cell (i := 3) (by omega); have p4 := hrd1.cell (i := 4) (by omega); have p5 := hrd1.cell (i := 5) (by omega); have p6 := hrd1.cell (i := 6) (by omega); have pf := hrd1.frozen
    simp only [row7] at p0 p1 p2 p3 p4 p5 p6
    have HR1 := hide hrd1; have HBW := hide hbw; have HO := hide ho; have HF := hide hF; have HU := hide hu
    clear hrd1 hbw ho hF hb1 HW HRD hu
    go_wp2_with fail
    go_end0
    have hsz := (unhide HBW).size
    refine ⟨Or.inl ⟨ty, ver, t, ⟨.int .i64 t.sort, .int .i64 t.num, .string t.text, .slice ap t.names.length cp, .slice aq t.kids.length cq⟩, F, rfl, ?_, Own.carry _ _ F (fun y hy => ?_) (unhide HO), hnd, fun y hy => ⟨by have := (unhide HF y hy).1; rw [World.size_alloc] at this; omega, by simp only [size_setCell]; exact (unhide HF y hy).2⟩, unhide HU⟩, ?_⟩
    · have := (((((((unhide HR1).set 0 (.string ty)).set 1 (.int .i64 ver)).set 2 (.int .i64 t.sort)).set 3 (.int .i64 t.num)).set 4 (.string t.text)).set 5 (.slice ap t.names.length cp)).set 6 (.slice aq t.kids.length cq)
      exact this.congr (fun i hi => by rcases (show i = 0 ∨ i = 1 ∨ i = 2 ∨ i = 3 ∨ i = 4 ∨ i = 5 ∨ i = 6 by omega) with rfl | rfl | rfl | rfl | rfl | rfl | rfl <;> rfl)
    · have := (unhide HF y hy).1
      rw [World.size_alloc] at this
      repeat rw [Below.heap_setCell _ _ _ _ (by simp <;> omega)]
    · refine (But.of_below (unhide HBW)).trans ?_
      exact (((((((But.set (B := X + 2) w1 0 _).trans (But.set _ 1 _)).trans (But.set _ 2 _)).trans (But.set _ 3 _)).trans (But.set _ 4 _)).trans (But.set _ 5 _)).trans (But.set _ 6 _))
  · exact ⟨rfl, Or.inr ⟨rfl, hno, hbw.block _ hlt⟩, But.of_below hbw⟩
end Go.Proofs.YtbkagahmiibclaaGreatDoor

/- The walk of the program's EventUnpack, its closure by its contract. Conditions: the table treeFields is as the program lays it. -/

namespace Go.Proofs.YtbkagahmiibclaaGreatDoor
open Go Go.RowKit

/-- What EventUnpack comes to, the program's and the specification's. -/
def UpEnd (w w' : World) (b : List UInt8) (e : Ending) : Prop :=
  Below w.heap.size w w' ∧ ((∃ (ty : ByteArray) (ver : Int) (t : Tr) (c : C5) (F : List Nat), e = .returned (.tuple #[.agg #[.string ty, .int .i64 ver, c.c0, c.c1, c.c2, c.c3, c.c4], .bool true]) ∧ Own w' t c F ∧ F.Nodup ∧ (∀ x, x ∈ F → w.heap.size ≤ x ∧ x < w'.heap.size) ∧ UpE b ty ver t)
    ∨ (e = .returned (.tuple #[.agg #[.string ⟨#[]⟩, .int .i64 0, .int .i64 0, .int .i64 0, .string ⟨#[]⟩, .slice none 0 0, .slice none 0 0], .bool false]) ∧ ∀ ty ver t, ¬ UpE b ty ver t))

theorem ub_start (w : World) (v : Value) (b : List UInt8) (hr : ByRow 0 w v b) (hs : b.length ≤ 1048576) : UbAt w.heap.size (((w.alloc (.cells #[v] 22)).alloc ev0).alloc ev0) v b := by
  have h1 : (w.alloc (.cells #[v] 22)).rowIs w.heap.size 22 1 (fun _ => v) := World.rowIs_alloc w #[v] _ _ (fun i hi => by
    have hi' : i < 1 := hi
    match i, hi' with
    | 0, _ => rfl)
  refine ⟨(h1.alloc _).alloc _, ?_, World.ownsRow.alloc (World.ownsRow.alloc (World.ownsRow.alloc hr _) _) _, fun g e => (hr.own g e).2, hs⟩
  have := row7_alloc ((w.alloc (.cells #[v] 22)).alloc ev0) (.string ⟨#[]⟩) (.int .i64 0) (.int .i64 0) (.int .i64 0) (.string ⟨#[]⟩) (.slice none 0 0) (.slice none 0 0) 28
  rw [World.size_alloc, World.size_alloc] at this
  exact this
theorem UbAt.on {X : Nat} {w w' : World} {v : Value} {b : List UInt8} (h : UbAt X w v b) (hb : Below w.heap.size w w') : UbAt X w' v b :=
  ⟨h.box.of_block (hb.block _ h.box.lt), h.rd.of_block (hb.block _ h.rd.lt), h.row.stay hb, h.own, h.small⟩

set_option maxRecDepth 100000 in
set_option maxHeartbeats 1600000 in
theorem implEventUnpack_any (w : World) (v : Value) (b : List UInt8) (hr : ByRow 0 w v b) (hs : b.length ≤ 1048576) (hT : Tab w) :
    Calls Tryz.prog 12 #[v] w fun e w' => UpEnd w w' b e := by
  have hmf : ∀ (fn : Fn) (first cap : Array Value) (w : World), (Instr.makeFunc fn first cap).run Tryz.prog w = .ok (.func fn first cap) w := fun _ _ _ _ => rfl
  have hub := ub_start w v b hr hs
  have hb3 : Below w.heap.size w (((w.alloc (.cells #[v] 22)).alloc ev0).alloc ev0) := (((Below.refl _ _).alloc (Nat.le_refl _) _).alloc (by simp) _).alloc (by simp; omega) _
  have hX1 : (((w.alloc (.cells #[v] 22)).alloc ev0).alloc ev0).rowIs (w.heap.size + 1) 28 7 (row7 (.string ⟨#[]⟩) (.int .i64 0) (.int .i64 0) (.int .i64 0) (.string ⟨#[]⟩) (.slice none 0 0) (.slice none 0 0)) := by
    have := (row7_alloc (w.alloc (.cells #[v] 22)) (.string ⟨#[]⟩) (.int .i64 0) (.int .i64 0) (.int .i64 0) (.string ⟨#[]⟩) (.slice none 0 0) (.slice none 0 0) 28).alloc ev0
    rw [World.size_alloc] at this
    exact this
  have hsz3 : (((w.alloc (.cells #[v] 22)).alloc ev0).alloc ev0).heap.size = w.heap.size + 3 := by simp
  have hTW := hT.of_block (hb3.block 1 hT.lt)
  have hwork := fun (o : Obj) => upWork w.heap.size ((((w.alloc (.cells #[v] 22)).alloc ev0).alloc ev0).alloc o) v b (hub.on ((Below.refl _ _).alloc (Nat.le_refl _) o)) (hTW.of_block (Below.heap_alloc _ _ _ hTW.lt))
  obtain ⟨a, cap, hv⟩ := hr.slice
  subst hv
  by_cases hex : ∃ ty ver t, UpE b ty ver t
  · have htry := treeTry_yes2 36 #[.pointer (some ⟨w.heap.size, 0, none⟩), .pointer (some ⟨w.heap.size + 2, 0, none⟩)] (((w.alloc (.cells #[.slice a b.length cap] 22)).alloc ev0).alloc ev0)
      (fun w1 => ∃ (ty : ByteArray) (ver : Int) (t : Tr) (c : C5) (F : List Nat), w1.rowIs (w.heap.size + 2) 28 7 (row7 (.string ty) (.int .i64 ver) c.c0 c.c1 c.c2 c.c3 c.c4) ∧ Own w1 t c F ∧ F.Nodup ∧ (∀ x, x ∈ F → w.heap.size + 4 ≤ x ∧ x < w1.heap.size) ∧ UpE b ty ver t ∧ But (w.heap.size + 2) ((((w.alloc (.cells #[.slice a b.length cap] 22)).alloc ev0).alloc ev0).alloc (.cells #[.bool false] 4)) w1)
      (enterUnpack _) (by
        refine (hwork (.cells #[.bool false] 4)).mono ?_
        rintro e w1 ⟨hc, hb1⟩
        rcases hc with ⟨ty, ver, t, c, F, rfl, h1, h2, h3, h4, h5⟩ | ⟨-, hno, -⟩
        · refine ⟨rfl, ⟨ty, ver, t, c, F, h1, h2, h3, fun x hx => ⟨by have := (h4 x hx).1; rw [World.size_alloc, hsz3] at this; omega, (h4 x hx).2⟩, h5, hb1⟩, ?_⟩
          exact hb1.at (by simp) (by rw [hsz3]; omega)
        · obtain ⟨ty, ver, t, hu⟩ := hex
          exact absurd hu (hno ty ver t))
    have HTRY := hide htry; have HB3 := hide hb3; have HX1 := hide hX1; have HS3 := hide hsz3
    clear htry hwork hub hb3 hX1 hTW hT hr hsz3 hex
    go_enter Tryz.func12, Tryz.ntmps12
    go_wp2_with fail
    refine (unhide HTRY).mono ?_
    rintro e w4 ⟨rfl, w1, ⟨ty, ver, t, ⟨c0, c1, c2, c3, c4⟩, F, hrd, ho, hnd, hF, hu, hb1⟩, hb4⟩
    have hsz := unhide HS3
    have hs1 := hb1.size
    rw [World.size_alloc, hsz] at hs1
    have hs4 := hb4.size
    rw [hsz] at hb4
    obtain ⟨g0, g1, g2, -, -, -, F1, F2, -, ⟨ap, cp, g3, -⟩, aq, cq, g4, -⟩ := ho.open
    simp only at g0 g1 g2 g3 g4
    subst g0 g1 g2 g3 g4
    have hrd4 := hrd.of_block (hb4.at hrd.lt (by omega))
    have hX4 := (((unhide HX1).alloc (.cells #[.bool false] 4)).of_block (hb1.at ((unhide HX1).alloc _).lt (by omega))).of_block (hb4.at (by omega) (by omega))
    have ho4 := Own.carry t _ F (fun x hx => hb4.at (hF x hx).2 (by have := (hF x hx).1; omega)) ho
    have hbw4 : Below w.heap.size w w4 := by
      refine (unhide HB3).trans ⟨hb4.os.trans hb1.os, hb4.tape.trans hb1.tape, hb4.output.trans hb1.output, by rw [hsz]; omega, fun i hi => ?_⟩
      exact (hb4.at (by omega) (by omega)).trans ((hb1.at (by rw [World.size_alloc, hsz]; omega) (by omega)).trans (Below.heap_alloc _ _ _ (by rw [hsz]; omega)))
    have p0 := hX4.cell (i := 0) (by omega); have p1 := hX4.cell (i := 1) (by omega); have p2 := hX4.cell (i := 2) (by omega); have p3 := hX4.cell (i := 3) (by omega); have p4 := hX4.cell (i := 4) (by omega); have p5 := hX4.cell (i := 5) (by omega); have p6 := hX4.cell (i := 6) (by omega); have pf := hX4.frozen
    have q0 := hrd4.cell (i := 0) (by omega); have q1 := hrd4.cell (i := 1) (by omega); have q2 := hrd4.cell (i := 2) (by omega); have q3 := hrd4.cell (i := 3) (by omega); have q4 := hrd4.cell (i := 4) (by omega); have q5 := hrd4.cell (i := 5) (by omega); have q6 := hrd4.cell (i := 6) (by omega)
    simp only [row7] at p0 p1 p2 p3 p4 p5 p6 q0 q1 q2 q3 q4 q5 q6
    have HO := hide ho4; have HBW := hide hbw4; have HF := hide hF; have HU := hide hu; have HLT := hide (show w1.heap.size ≤ w4.heap.size from hs4)
    clear hrd4 hX4 ho4 hbw4 hF hb1 hb4 hrd ho HTRY HB3 HX1 hs1 hs4 hsz hu
    go_wp2_with fail
    refine bodyPost_ret (v := .tuple #[.agg #[.string ty, .int .i64 ver, .int .i64 t.sort, .int .i64 t.num, .string t.text, .slice ap t.names.length cp, .slice aq t.kids.length cq], .bool true]) (by simp [results, Tryz.results12, go_sem, p0, p1, p2, p3, p4, p5, p6]) rfl ?_
    refine ⟨?_, Or.inl ⟨ty, ver, t, ⟨_, _, _, _, _⟩, F, rfl, Own.carry _ _ F (fun y hy => by have := (unhide HF y hy).1; repeat rw [Below.heap_setCell _ _ _ _ (by simp <;> omega)]) (unhide HO), hnd, fun y hy => ⟨by have := (unhide HF y hy).1; omega, by simp only [size_setCell]; have := (unhide HF y hy).2; have := unhide HLT; omega⟩, unhide HU⟩⟩
    repeat refine Below.setCell ?_ (by simp <;> omega) _
    exact unhide HBW
  · have hno : ∀ ty ver t, ¬ UpE b ty ver t := fun ty ver t hu => hex ⟨ty, ver, t, hu⟩
    have htry := treeTry_no2 36 #[.pointer (some ⟨w.heap.size, 0, none⟩), .pointer (some ⟨w.heap.size + 2, 0, none⟩)] (((w.alloc (.cells #[.slice a b.length cap] 22)).alloc ev0).alloc ev0)
      (fun w1 => w1.heap[w.heap.size + 2]? = ((((w.alloc (.cells #[.slice a b.length cap] 22)).alloc ev0).alloc ev0).alloc (.cells #[.bool false] 4)).heap[w.heap.size + 2]? ∧ But (w.heap.size + 2) ((((w.alloc (.cells #[.slice a b.length cap] 22)).alloc ev0).alloc ev0).alloc (.cells #[.bool false] 4)) w1)
      (enterUnpack _) (by
        refine (hwork (.cells #[.bool false] 4)).mono ?_
        rintro e w1 ⟨hc, hb1⟩
        rcases hc with ⟨ty, ver, t, c, F, rfl, h1, h2, h3, h4, h5⟩ | ⟨rfl, -, h2⟩
        · exact absurd h5 (hno ty ver t)
        · exact ⟨rfl, ⟨h2, hb1⟩, hb1.at (by simp) (by rw [hsz3]; omega)⟩)
    have HTRY := hide htry; have HB3 := hide hb3; have HX1 := hide hX1; have HS3 := hide hsz3; have HRD := hide hub.rd; have HNO := hide hno
    clear htry hwork hub hb3 hX1 hTW hT hr hsz3 hex hno
    go_enter Tryz.func12, Tryz.ntmps12
    go_wp2_with fail
    refine (unhide HTRY).mono ?_
    rintro e w4 ⟨rfl, w1, ⟨hrdb, hb1⟩, hb4⟩
    have hsz := unhide HS3
    have hs1 := hb1.size
    rw [World.size_alloc, hsz] at hs1
    have hs4 := hb4.size
    rw [hsz] at hb4
    have hrd4 := (((unhide HRD).alloc (.cells #[.bool false] 4)).of_block hrdb).of_block (hb4.at (by omega) (by omega))
    have hX4 := (((unhide HX1).alloc (.cells #[.bool false] 4)).of_block (hb1.at ((unhide HX1).alloc _).lt (by omega))).of_block (hb4.at (by omega) (by omega))
    have hbw4 : Below w.heap.size w w4 := by
      refine (unhide HB3).trans ⟨hb4.os.trans hb1.os, hb4.tape.trans hb1.tape, hb4.output.trans hb1.output, by rw [hsz]; omega, fun i hi => ?_⟩
      exact (hb4.at (by omega) (by omega)).trans ((hb1.at (by rw [World.size_alloc, hsz]; omega) (by omega)).trans (Below.heap_alloc _ _ _ (by rw [hsz]; omega)))
    have p0 := hX4.cell (i := 0) (by omega); have p1 := hX4.cell (i := 1) (by omega); have p2 := hX4.cell (i := 2) (by omega); have p3 := hX4.cell (i := 3) (by omega); have p4 := hX4.cell (i := 4) (by omega); have p5 := hX4.cell (i := 5) (by omega); have p6 := hX4.cell (i := 6) (by omega); have pf := hX4.frozen
    have q0 := hrd4.cell (i := 0) (by omega); have q1 := hrd4.cell (i := 1) (by omega); have q2 := hrd4.cell (i := 2) (by omega); have q3 := hrd4.cell (i := 3) (by omega); have q4 := hrd4.cell (i := 4) (by omega); have q5 := hrd4.cell (i := 5) (by omega); have q6 := hrd4.cell (i := 6) (by omega)
    simp only [row7] at p0 p1 p2 p3 p4 p5 p6 q0 q1 q2 q3 q4 q5 q6
    have HBW := hide hbw4
    clear hrd4 hX4 hbw4 hb1 hb4 HTRY HB3 HX1 hs1 hs4 hsz HRD hrdb
    go_wp2_with fail
    refine bodyPost_ret (v := .tuple #[.agg #[.string ⟨#[]⟩, .int .i64 0, .int .i64 0, .int .i64 0, .string ⟨#[]⟩, .slice none 0 0, .slice none 0 0], .bool false]) (by simp [results, Tryz.results12, go_sem, p0, p1, p2, p3, p4, p5, p6]) rfl ?_
    refine ⟨?_, Or.inr ⟨rfl, unhide HNO⟩⟩
    repeat refine Below.setCell ?_ (by simp <;> omega) _
    exact unhide HBW
end Go.Proofs.YtbkagahmiibclaaGreatDoor
