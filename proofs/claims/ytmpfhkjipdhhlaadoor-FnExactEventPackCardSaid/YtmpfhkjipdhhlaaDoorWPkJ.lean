/- The walk of the program's EventPack. Conditions: the table treeFields is as the program lays it. -/
import Derived.Test.YtmpfhkjipdhhlaaDoorWPkI
import Derived.Test.YtmpfhkjipdhhlaaDoorWTry2
namespace Go.Proofs.YtmpfhkjipdhhlaaDoor
open Go Go.RowKit

/-- What EventPack's world holds: the event's box, the writer, the writer's address. -/
structure PkAt (base : Nat) (w : World) (ty : ByteArray) (ver : Int) (c : C5) (v : Value) (l : List UInt8) : Prop where
  box : w.rowIs base 34 7 (row7 (.string ty) (.int .i64 ver) c.c0 c.c1 c.c2 c.c3 c.c4)
  wr : Wr base (base + 1) w v l
  ptr : w.rowIs (base + 1 + 1) 56 1 (fun _ => .pointer (some ⟨base + 1, 0, none⟩))

theorem PkAt.on {base : Nat} {w w' : World} {ty : ByteArray} {ver : Int} {c : C5} {v : Value} {l : List UInt8} (h : PkAt base w ty ver c v l) (hb : Below w.heap.size w w') : PkAt base w' ty ver c v l :=
  ⟨h.box.of_block (hb.block _ h.box.lt), ⟨h.wr.cells.of_block (hb.block _ h.wr.cells.lt), h.wr.row.stay hb, h.wr.lt⟩, h.ptr.of_block (hb.block _ h.ptr.lt)⟩

theorem row1_alloc (w : World) (x : Value) (t : TypeId) : (w.alloc (.cells #[x] t)).rowIs w.heap.size t 1 (fun _ => x) :=
  World.rowIs_alloc w #[x] t _ (fun i hi => by
    have hi' : i < 1 := hi
    match i, hi' with
    | 0, _ => rfl)

theorem PkAt.start (w : World) (ty : ByteArray) (ver : Int) (c0 c1 c2 c3 c4 : Value) : PkAt w.heap.size (((w.alloc (.cells #[.string ty, .int .i64 ver, c0, c1, c2, c3, c4] 34)).alloc (.cells #[.int .i64 0, .int .i64 9000, .slice none 0 0] 63)).alloc (.cells #[.pointer (some ⟨w.heap.size + 1, 0, none⟩)] 56)) ty ver ⟨c0, c1, c2, c3, c4⟩ (.slice none 0 0) [] := by
  refine ⟨((row7_alloc w (.string ty) (.int .i64 ver) c0 c1 c2 c3 c4 _).alloc _).alloc _, ⟨?_, ⟨rfl, Or.inl ⟨rfl, rfl⟩⟩, Nat.le_succ _⟩, ?_⟩
  · have := (row3_alloc (w.alloc (.cells #[.string ty, .int .i64 ver, c0, c1, c2, c3, c4] 34)) (.int .i64 0) (.int .i64 9000) (.slice none 0 0) 63).alloc (.cells #[.pointer (some ⟨w.heap.size + 1, 0, none⟩)] 56)
    rw [World.size_alloc] at this
    exact this
  · have := row1_alloc ((w.alloc (.cells #[.string ty, .int .i64 ver, c0, c1, c2, c3, c4] 34)).alloc (.cells #[.int .i64 0, .int .i64 9000, .slice none 0 0] 63)) (.pointer (some ⟨w.heap.size + 1, 0, none⟩)) 56
    rw [World.size_alloc, World.size_alloc] at this
    exact this

set_option maxRecDepth 100000 in
/-- treeTry over EventPack's work, where the event is ok. -/
theorem packTry_any (ty : ByteArray) (ver : Int) (t : Tr) (P : Nat → Prop) (c : C5) (base : Nat) (w : World) (hP : ∀ b, P b → b < base) (hrep : Rep P w t c) (hok : evOkB ty ver t = true) (h : PkAt base w ty ver c (.slice none 0 0) []) :
    Calls Tryd.prog 35 #[.func (.func 36) #[] #[.pointer (some ⟨base + 1 + 1, 0, none⟩), .pointer (some ⟨base, 0, none⟩)]] w fun e w' =>
      e = .returned (.bool true) ∧ (∃ a n cap, n = (eventB ty ver t).length ∧ PkAt base w' ty ver c (.slice a n cap) (eventB ty ver t)) ∧ Below base w w' := by
  obtain ⟨-, h8, -, -, -, hpt⟩ := evOk_parts hok
  have hlen : ([] : List UInt8).length + (eventB ty ver t).length ≤ 9000 := by have := eventB_len (ver := ver) h8 hpt; simpa using this
  have hpl := h.ptr.lt
  have hb0 : Below w.heap.size w (w.alloc (.cells #[.bool false] 4)) := (Below.refl _ _).alloc (Nat.le_refl _) _
  have h1 := h.on hb0
  have hrep1 : Rep P (w.alloc (.cells #[.bool false] 4)) t c := Rep.carry (fun b hb => hb0.block b (by have := hP b hb; omega)) (fun _ h => h) _ _ hrep
  have hbl := row1_alloc w (.bool false) 4
  refine (treeTry_yes2 36 _ w (fun w1 => Sp base (base + 1) (w.alloc (.cells #[.bool false] 4)) w1 ∧ ∃ a n cap, n = (eventB ty ver t).length ∧ Wr base (base + 1) w1 (.slice a n cap) (eventB ty ver t)) (enterPack _) ?_).mono ?_
  · refine (packWork_any ty ver t P c base (base + 1) base (base + 1 + 1) _ none 0 0 [] hP hrep1 hok h1.wr hlen h1.box h1.ptr).mono ?_
    rintro e w' ⟨he, hsp, hend⟩
    rw [List.nil_append] at hend
    refine ⟨he, ⟨hsp, hend⟩, ?_⟩
    exact hsp.block _ hbl.lt (by omega) (Or.inr fun cs f e => by
      obtain ⟨c', hb', _⟩ := hbl
      rw [e] at hb'
      simp at hb')
  · rintro e w' ⟨rfl, w1, ⟨hsp, a, n, cap, hn, hw⟩, hb⟩
    have hs1 := hsp.size
    rw [World.size_alloc] at hs1
    have hbl1 : w1.rowIs w.heap.size 4 1 (fun _ => .bool false) := hsp.box hbl (by omega) (by decide)
    have hne : (Value.slice a n cap).ownBlock ≠ some w.heap.size := ByRow.apart hw.row hbl1 (by decide)
    have hbox1 := hsp.box h1.box (by omega) (by decide)
    have hptr1 := hsp.box h1.ptr (by omega) (by decide)
    refine ⟨rfl, ⟨a, n, cap, hn, hbox1.of_block (hb.at hbox1.lt (by omega)), ⟨hw.cells.of_block (hb.at hw.cells.lt (by omega)), World.ownsRow.kept hw.row hb (Or.inr hne), hw.lt⟩, hptr1.of_block (hb.at hptr1.lt (by omega))⟩, ?_⟩
    have hlow : Below base w w1 := ((Below.refl base w).alloc (by omega) (.cells #[.bool false] 4)).trans (hsp.below (by omega) (by simp; omega))
    exact ⟨hb.os.trans hlow.os, hb.tape.trans hlow.tape, hb.output.trans hlow.output, Nat.le_trans hlow.size hb.size, fun b hbb => (hb.at (by omega) (by omega)).trans (hlow.block b hbb)⟩

set_option maxRecDepth 100000 in
theorem newWriter_any (w : World) : Calls Tryd.prog 34 #[.int .i64 9000] w fun e w' => e = .returned (.pointer (some ⟨w.heap.size, 0, none⟩)) ∧ w' = w.alloc (.cells #[.int .i64 0, .int .i64 9000, .slice none 0 0] 63) := by
  go_enter Tryd.func34, Tryd.ntmps34
  go_wp2_with fail
  go_ret
  exact ⟨rfl, rfl⟩

set_option maxRecDepth 100000 in
set_option maxHeartbeats 1600000 in
theorem implEventPack_any (ty : ByteArray) (ver : Int) (t : Tr) (P : Nat → Prop) (c : C5) (w : World) (hP : ∀ b, P b → b < w.heap.size) (hrep : Rep P w t c) (hty : ty.size ≤ 9223372036854775807) (hver : I64 ver) (hT : Tab w) :
    Calls Tryd.prog 13 #[.agg #[.string ty, .int .i64 ver, c.c0, c.c1, c.c2, c.c3, c.c4]] w fun e w' => ByNew w w' e (packB ty ver t) := by
  have hmf : ∀ (fn : Fn) (first cap : Array Value) (w : World), (Instr.makeFunc fn first cap).run Tryd.prog w = .ok (.func fn first cap) w := fun _ _ _ _ => rfl
  obtain ⟨c0, c1, c2, c3, c4⟩ := c
  have hok := fun (W : World) (hW : Below w.heap.size w W) => implEventOk_any ty ver t P ⟨c0, c1, c2, c3, c4⟩ W (fun b hb => Nat.lt_of_lt_of_le (hP b hb) hW.size) (Rep.carry (fun b hb => hW.block b (hP b hb)) (fun _ h => h) _ _ hrep) hty hver (hT.of_block (hW.block 0 hT.lt))
  have hbx : ∀ o o2 o3, Below w.heap.size w (((w.alloc o).alloc o2).alloc o3) := fun o o2 o3 => (((Below.refl _ _).alloc (Nat.le_refl _) o).alloc (by simp) o2).alloc (by simp; omega) o3
  have HST := hide (PkAt.start w ty ver c0 c1 c2 c3 c4)
  have HTRY := hide (fun (W : World) (hW : Below w.heap.size w W) (hk : evOkB ty ver t = true) (h : PkAt w.heap.size W ty ver ⟨c0, c1, c2, c3, c4⟩ (.slice none 0 0) []) => packTry_any ty ver t P ⟨c0, c1, c2, c3, c4⟩ w.heap.size W hP (Rep.carry (fun b hb => hW.block b (hP b hb)) (fun _ h => h) _ _ hrep) hk h)
  have HOK := hide hok; have HBX := hide hbx
  clear hok hbx hP hrep hT hty hver
  by_cases h : evOkB ty ver t = true
  · have HE : Hid (packB ty ver t = eventB ty ver t) := by show packB ty ver t = _; rw [packB, if_pos h]
    have HK := hide h
    rw [h] at HOK
    clear h
    go_enter Tryd.func13, Tryd.ntmps13
    go_wp2_with (go_at_call 34; refine (newWriter_any _).mono ?_; rintro e w' ⟨rfl, rfl⟩)
    refine (unhide HOK _ (unhide HBX _ _ _)).mono ?_
    rintro e w2 ⟨rfl, hb2⟩
    have HP2 := hide ((unhide HST).on hb2)
    have HB2 := hide ((unhide HBX _ _ _).trans (hb2.mono (unhide HBX _ _ _).size))
    clear hb2 HOK HST HBX
    have HT := hide (unhide HTRY w2 (unhide HB2) (unhide HK) (unhide HP2))
    clear HTRY HP2
    go_wp2_with fail
    refine (unhide HT).mono ?_
    rintro e w3 ⟨rfl, ⟨a, n, cap, hn, hp3⟩, hb3⟩
    have y0 := hp3.ptr.cell (i := 0) (by omega)
    have r2 := hp3.wr.cells.cell (i := 2) (by omega)
    simp only [row3] at y0 r2
    have HP3 := hide hp3; have HB3 := hide ((unhide HB2).trans hb3); have HN := hide hn
    clear hp3 hb3 hn HT HB2
    go_wp2_with fail
    go_ret
    rw [HE.out]
    exact ⟨a, n, cap, rfl, unhide HN, (unhide HP3).wr.row, unhide HB3⟩
  · have HE : Hid (packB ty ver t = []) := by show packB ty ver t = _; rw [packB, if_neg h]
    have hf : evOkB ty ver t = false := by simpa using h
    rw [hf] at HOK
    clear h hf HTRY
    go_enter Tryd.func13, Tryd.ntmps13
    go_wp2_with (go_at_call 34; refine (newWriter_any _).mono ?_; rintro e w' ⟨rfl, rfl⟩)
    refine (unhide HOK _ (unhide HBX _ _ _)).mono ?_
    rintro e w2 ⟨rfl, hb2⟩
    have HB2 := hide ((unhide HBX _ _ _).trans (hb2.mono (unhide HBX _ _ _).size))
    clear hb2 HOK HST HBX
    go_wp2_with fail
    go_ret
    rw [HE.out]
    exact ⟨none, 0, 0, rfl, rfl, ⟨rfl, Or.inl ⟨rfl, rfl⟩⟩, unhide HB2⟩
end Go.Proofs.YtmpfhkjipdhhlaaDoor
