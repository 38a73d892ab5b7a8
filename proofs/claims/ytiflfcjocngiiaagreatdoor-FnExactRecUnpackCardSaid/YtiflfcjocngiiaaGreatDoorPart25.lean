/- The walk of the program's EventPack. Conditions: the table treeFields is as the program lays it. -/
import Derived.Test.YtiflfcjocngiiaaGreatDoorPart24
import Derived.Test.YtiflfcjocngiiaaGreatDoorPart17
import Derived.Test.YtiflfcjocngiiaaGreatDoorPart19
import Derived.Test.YtiflfcjocngiiaaGreatDoorRows
import Derived.Test.YtiflfcjocngiiaaGreatDoorPart01
import Derived.Deep.OwnRows
import Derived.Handy
import Derived.Test.YtiflfcjocngiiaaGreatDoorPart23
namespace Go.Proofs.YtiflfcjocngiiaaGreatDoor
open Go Go.RowKit

/-- What EventPack's world holds: the event's box, the writer, the writer's address. -/
structure PkAt (base : Nat) (w : World) (ty : ByteArray) (ver : Int) (c : C5) (v : Value) (l : List UInt8) : Prop where
  box : w.rowIs base 41 7 (row7 (.string ty) (.int .i64 ver) c.c0 c.c1 c.c2 c.c3 c.c4)
  wr : Wr base (base + 1) w v l
  ptr : w.rowIs (base + 1 + 1) 105 1 (fun _ => .pointer (some ⟨base + 1, 0, none⟩))

theorem PkAt.on {base : Nat} {w w' : World} {ty : ByteArray} {ver : Int} {c : C5} {v : Value} {l : List UInt8} (h : PkAt base w ty ver c v l) (hb : Below w.heap.size w w') : PkAt base w' ty ver c v l :=
  ⟨h.box.of_block (hb.block _ h.box.lt), ⟨h.wr.cells.of_block (hb.block _ h.wr.cells.lt), h.wr.row.stay hb, h.wr.lt⟩, h.ptr.of_block (hb.block _ h.ptr.lt)⟩

theorem row1_alloc (w : World) (x : Value) (t : TypeId) : (w.alloc (.cells #[x] t)).rowIs w.heap.size t 1 (fun _ => x) :=
  World.rowIs_alloc w #[x] t _ (fun i hi => by
    have hi' : i < 1 := hi
    match i, hi' with
    | 0, _ => rfl)

theorem PkAt.start (w : World) (ty : ByteArray) (ver : Int) (c0 c1 c2 c3 c4 : Value) : PkAt w.heap.size (((w.alloc (.cells #[.string ty, .int .i64 ver, c0, c1, c2, c3, c4] 41)).alloc (.cells #[.int .i64 0, .int .i64 9000, .slice none 0 0] 107)).alloc (.cells #[.pointer (some ⟨w.heap.size + 1, 0, none⟩)] 105)) ty ver ⟨c0, c1, c2, c3, c4⟩ (.slice none 0 0) [] := by
  refine ⟨((row7_alloc w (.string ty) (.int .i64 ver) c0 c1 c2 c3 c4 _).alloc _).alloc _, ⟨?_, ⟨rfl, Or.inl ⟨rfl, rfl⟩⟩, Nat.le_succ _⟩, ?_⟩
  · have := (row3_alloc (w.alloc (.cells #[.string ty, .int .i64 ver, c0, c1, c2, c3, c4] 41)) (.int .i64 0) (.int .i64 9000) (.slice none 0 0) 107).alloc (.cells #[.pointer (some ⟨w.heap.size + 1, 0, none⟩)] 105)
    rw [World.size_alloc] at this
    exact this
  · have := row1_alloc ((w.alloc (.cells #[.string ty, .int .i64 ver, c0, c1, c2, c3, c4] 41)).alloc (.cells #[.int .i64 0, .int .i64 9000, .slice none 0 0] 107)) (.pointer (some ⟨w.heap.size + 1, 0, none⟩)) 105
    rw [World.size_alloc, World.size_alloc] at this
    exact this

set_option maxRecDepth 100000 in
/-- treeTry over EventPack's work, where the event is ok. -/
theorem packTry_any (ty : ByteArray) (ver : Int) (t : Tr) (P : Nat → Prop) (c : C5) (base : Nat) (w : World) (hP : ∀ b, P b → b < base) (hrep : Rep P w t c) (hok : evOkB ty ver t = true) (h : PkAt base w ty ver c (.slice none 0 0) []) :
    Calls Tryz.prog 13 #[.func (.func 78) #[] #[.pointer (some ⟨base + 1 + 1, 0, none⟩), .pointer (some ⟨base, 0, none⟩)]] w fun e w' =>
      e = .returned (.bool true) ∧ (∃ a n cap, n = (eventB ty ver t).length ∧ PkAt base w' ty ver c (.slice a n cap) (eventB ty ver t)) ∧ Below base w w' := by
  obtain ⟨-, h8, -, -, -, hpt⟩ := evOk_parts hok
  have hlen : ([] : List UInt8).length + (eventB ty ver t).length ≤ 9000 := by have := eventB_len (ver := ver) h8 hpt; simpa using this
  have hpl := h.ptr.lt
  have hb0 : Below w.heap.size w (w.alloc (.cells #[.bool false] 4)) := (Below.refl _ _).alloc (Nat.le_refl _) _
  have h1 := h.on hb0
  have hrep1 : Rep P (w.alloc (.cells #[.bool false] 4)) t c := Rep.carry (fun b hb => hb0.block b (by have := hP b hb; omega)) (fun _ h => h) _ _ hrep
  have hbl := row1_alloc w (.bool false) 4
  refine (treeTry_yes2 78 _ w (fun w1 => Sp base (base + 1) (w.alloc (.cells #[.bool false] 4)) w1 ∧ ∃ a n cap, n = (eventB ty ver t).length ∧ Wr base (base + 1) w1 (.slice a n cap) (eventB ty ver t)) (enterPack _) ?_).mono ?_
  · refine (packWork_any ty ver t P c base (base + 1) base (base + 1 + 1) _ none 0 0 [] hP hrep1 hok h1.wr hlen h1.box h1.ptr).mono ?_
    rintro e w' ⟨he, hsp, hend⟩
    rw [List.nil_append] at hend
    refine ⟨he, ⟨hsp, hend⟩, ?_⟩
    exact hsp.block _ hbl.lt (by omega) (Or.inr fun cs f e => by
      obtain ⟨c', hb', _⟩ := hbl
      rw [e] at hb'
      simp at hb')
  · rintro e w' ⟨rfl, w1, ⟨hsp, a, n, cap, hn, hw⟩, hb⟩
    have hs1 := hsp.size
    rw [World.size_alloc] at hs1
    have hbl1 : w1.rowIs w.heap.size 4 1 (fun _ => .bool false) := hsp.box hbl (by omega) (by decide)
    have hne : (Value.slice a n cap).ownBlock ≠ some w.heap.size := ByRow.apart hw.row hbl1 (by decide)
    have hbox1 := hsp.box h1.box (by omega) (by decide)
    have hptr1 := hsp.box h1.ptr (by omega) (by decide)
    refine ⟨rfl, ⟨a, n, cap, hn, hbox1.of_block (hb.at hbox1.lt (by omega)), ⟨hw.cells.of_block (hb.at hw.cells.lt (by omega)), World.ownsRow.kept hw.row hb (Or.inr hne), hw.lt⟩, hptr1.of_block (hb.at hptr1.lt (by omega))⟩, ?_⟩
    have hlow : Below base w w1 := ((Below.refl base w).alloc (by omega) (.cells #[.bool false] 4)).trans (hsp.below (by omega) (by simp; omega))
    exact ⟨hb.os.trans hlow.os, hb.tape.trans hlow.tape, hb.output.trans hlow.output, Nat.le_trans hlow.size hb.size, fun b hbb => (hb.at (by omega) (by omega)).trans (hlow.block b hbb)⟩

set_option maxRecDepth 100000 in
theorem newWriter_any (w : World) : Calls Tryz.prog 77 #[.int .i64 9000] w fun e w' => e = .returned (.pointer (some ⟨w.heap.size, 0, none⟩)) ∧ w' = w.alloc (.cells #[.int .i64 0, .int .i64 9000, .slice none 0 0] 107) := by
  go_enter Tryz.func77, Tryz.ntmps77
  go_wp2_with fail
  go_ret
  exact ⟨rfl, rfl⟩

set_option maxRecDepth 100000 in
set_option maxHeartbeats 1600000 in
theorem implEventPack_any (ty : ByteArray) (ver : Int) (t : Tr) (P : Nat → Prop) (c : C5) (w : World) (hP : ∀ b, P b → b < w.heap.size) (hrep : Rep P w t c) (hty : ty.size ≤ 9223372036854775807) (hver : I64 ver) (hT : Tab w) :
    Calls Tryz.prog 70 #[.agg #[.string ty, .int .i64 ver, c.c0, c.c1, c.c2, c.c3, c.c4]] w fun e w' => ByNew w w' e (packB ty ver t) := by
  have hmf : ∀ (fn : Fn) (first cap : Array Value) (w : World), (Instr.makeFunc fn first cap).run Tryz.prog w = .ok (.func fn first cap) w := fun _ _ _ _ => rfl
  obtain ⟨c0, c1, c2, c3, c4⟩ := c
  have hok := fun (W : World) (hW : Below w.heap.size w W) => implEventOk_any ty ver t P ⟨c0, c1, c2, c3, c4⟩ W (fun b hb => Nat.lt_of_lt_of_le (hP b hb) hW.size) (Rep.carry (fun b hb => hW.block b (hP b hb)) (fun _ h => h) _ _ hrep) hty hver (hT.of_block (hW.block 0 hT.lt))
  have hbx : ∀ o o2 o3, Below w.heap.size w (((w.alloc o).alloc o2).alloc o3) := fun o o2 o3 => (((Below.refl _ _).alloc (Nat.le_refl _) o).alloc (by simp) o2).alloc (by simp; omega) o3
  have HST := hide (PkAt.start w ty ver c0 c1 c2 c3 c4)
  have HTRY := hide (fun (W : World) (hW : Below w.heap.size w W) (hk : evOkB ty ver t = true) (h : PkAt w.heap.size W ty ver ⟨c0, c1, c2, c3, c4⟩ (.slice none 0 0) []) => packTry_any ty ver t P ⟨c0, c1, c2, c3, c4⟩ w.heap.size W hP (Rep.carry (fun b hb => hW.block b (hP b hb)) (fun _ h => h) _ _ hrep) hk h)
  have HOK := hide hok; have HBX := hide hbx
  clear hok hbx hP hrep hT hty hver
  by_cases h : evOkB ty ver t = true
  · have HE : Hid (packB ty ver t = eventB ty ver t) := by show packB ty ver t = _; rw [packB, if_pos h]
    have HK := hide h
    rw [h] at HOK
    clear h
    go_enter Tryz.func70, Tryz.ntmps70
    go_wp2_with (go_at_call 77; refine (newWriter_any _).mono ?_; rintro e w' ⟨rfl, rfl⟩)
    refine (unhide HOK _ (unhide HBX _ _ _)).mono ?_
    rintro e w2 ⟨rfl, hb2⟩
    have HP2 := hide ((unhide HST).on hb2)
    have HB2 := hide ((unhide HBX _ _ _).trans (hb2.mono (unhide HBX _ _ _).size))
    clear hb2 HOK HST HBX
    have HT := hide (unhide HTRY w2 (unhide HB2) (unhide HK) (unhide HP2))
    clear HTRY HP2
    go_wp2_with fail
    refine (unhide HT).mono ?_
    rintro e w3 ⟨rfl, ⟨a, n, cap, hn, hp3⟩, hb3⟩
    have y0 := hp3.ptr.cell (i := 0) (by omega)
    have r2 := hp3.wr.cells.cell (i := 2) (by omega)
    simp only [row3] at y0 r2
    have HP3 := hide hp3; have HB3 := hide ((unhide HB2).trans hb3); have HN := hide hn
    clear hp3 hb3 hn HT HB2
    go_wp2_with fail
    go_ret
    rw [HE.out]
    exact ⟨a, n, cap, rfl, unhide HN, (unhide HP3).wr.row, unhide HB3⟩
  · have HE : Hid (packB ty ver t = []) := by show packB ty ver t = _; rw [packB, if_neg h]
    have hf : evOkB ty ver t = false := by simpa using h
    rw [hf] at HOK
    clear h hf HTRY
    go_enter Tryz.func70, Tryz.ntmps70
    go_wp2_with (go_at_call 77; refine (newWriter_any _).mono ?_; rintro e w' ⟨rfl, rfl⟩)
    refine (unhide HOK _ (unhide HBX _ _ _)).mono ?_
    rintro e w2 ⟨rfl, hb2⟩
    have HB2 := hide ((unhide HBX _ _ _).trans (hb2.mono (unhide HBX _ _ _).size))
    clear hb2 HOK HST HBX
    go_wp2_with fail
    go_ret
    rw [HE.out]
    exact ⟨none, 0, 0, rfl, rfl, ⟨rfl, Or.inl ⟨rfl, rfl⟩⟩, unhide HB2⟩
end Go.Proofs.YtiflfcjocngiiaaGreatDoor

/- Records as bytes: what LogFrame gives, and the walks of both sides' functions. No conditions but that a string's length is one. -/

namespace Go.Proofs.YtiflfcjocngiiaaGreatDoor
open Go Go.RowKit

/-- A byte. -/
def hb (x : Int) : UInt8 := UInt8.ofNat x.toNat
theorem hb_nat {x : Int} (h0 : 0 ≤ x) (h1 : x < 256) : ((hb x).toNat : Int) = x := by unfold hb; rw [UInt8.toNat_ofNat']; omega
theorem frInS (a b c : Int) (w : World) : Calls Tryz.prog 42 #[.int .i64 a, .int .i64 b, .int .i64 c] w fun e w' => e = .returned (.bool (decide (b ≤ a ∧ a ≤ c))) ∧ Below w.heap.size w w' := by
  go_enter Tryz.func42, Tryz.ntmps42
  by_cases h1 : b ≤ a
  · by_cases h2 : a ≤ c
    · go_wp2_with fail
      go_ret
      exact ⟨by simp [h2]; omega, Below.refl _ _⟩
    · go_wp2_with fail
      go_ret
      exact ⟨by simp; omega, Below.refl _ _⟩
  · go_wp2_with fail
    go_ret
    exact ⟨by simp; omega, Below.refl _ _⟩
theorem frInP (a b c : Int) (w : World) : Calls Tryz.prog 57 #[.int .i64 a, .int .i64 b, .int .i64 c] w fun e w' => e = .returned (.bool (decide (b ≤ a ∧ a ≤ c))) ∧ Below w.heap.size w w' := by
  go_enter Tryz.func57, Tryz.ntmps57
  by_cases h1 : b ≤ a
  · by_cases h2 : a ≤ c
    · go_wp2_with fail
      go_ret
      exact ⟨by simp [h2]; omega, Below.refl _ _⟩
    · go_wp2_with fail
      go_ret
      exact ⟨by simp; omega, Below.refl _ _⟩
  · go_wp2_with fail
    go_ret
    exact ⟨by simp; omega, Below.refl _ _⟩
end Go.Proofs.YtiflfcjocngiiaaGreatDoor

/- The walk of the program's bytesOf, LogFrame. No conditions but that a string's length is one. -/

namespace Go.Proofs.YtiflfcjocngiiaaGreatDoor
open Go Go.RowKit

theorem bytes2 (w : World) : Calls Tryz.prog 119 #[.agg #[]] w fun e w' => e = .returned (.int .i64 2) ∧ Below w.heap.size w w' := by
  go_enter Tryz.func119, Tryz.ntmps119
  go_wp2_with fail
  go_ret
  exact ⟨rfl, (Below.refl _ _).alloc (Nat.le_refl _) _⟩

/-- So many bytes. -/
def rwB (l : List Int) (k : Nat) : Value := .int .u8 (l.getD k 0)
theorem conv_row (W : World) (b : Nat) (l : List Int) (hl : ∀ x, x ∈ l → 0 ≤ x ∧ x < 256) (h : W.rowIs b 5 l.length (rwB l)) :
    Sem.run Tryz.prog (convert 31 9 (.slice (some ⟨b, 0, none⟩) l.length l.length)) W = .ok (.string ⟨(l.map hb).toArray⟩) W := by
  have := run_convert_bytes_back (P := Tryz.prog) W 31 9 5 ⟨b, 0, none⟩ l.length (l.map hb) Tryz.underlying31 Tryz.underlying5 Tryz.underlying9 (fun j hj => by
    have hj' : j < l.length := by simpa using hj
    have hx := hl l[j] (List.getElem_mem hj')
    rw [Addr.add_lit, Nat.zero_add, h.cell hj']
    unfold rwB
    rw [List.getElem_map, hb_nat hx.1 hx.2, List.getD_eq_getElem?_getD, List.getElem?_eq_getElem hj']
    rfl)
  simpa using this

set_option maxRecDepth 100000 in
set_option maxHeartbeats 1600000 in
theorem bytesOf2_any (n : Int) (h0 : 0 ≤ n) (h1 : n < 65536) (w : World) : Calls Tryz.prog 71 #[.int .i64 n] w fun e w' => e = .returned (.string ⟨#[hb (n / 256), hb (n % 256)]⟩) ∧ Below w.heap.size w w' := by
  have hmk : ∀ W : World, Sem.run Tryz.prog (Instr.makeSlice 31 (.int .i64 2) (.int .i64 2)) W = .ok (.slice (some ⟨W.heap.size, 0, none⟩) 2 2) (W.alloc (.cells (madeCells #[.int .u8 0] 2) 5)) := run_make_row' (P := Tryz.prog) 31 5 (.int .u8 0) 1 Tryz.underlying31 (by kernel_rfl) rfl .i64 .i64 2 (by omega) (by omega)
  go_enter Tryz.func71, Tryz.ntmps71
  go_wp2_with fail
  refine (bytes2 _).mono ?_
  rintro e w1 ⟨rfl, hb1⟩
  have hb01 := ((Below.refl _ w).alloc (Nat.le_refl _) _).trans (hb1.mono (by simp))
  have HB := hide hb01
  have hz := hb01.size
  clear hb1 hb01
  go_wp2_with fail
  clear hmk
  go_loopw [0, 5] (fun q i wr => Below w1.heap.size w1 wr ∧ ((q = .int .i64 (n) ∧ i = .int .i64 (1) ∧ Hid (wr.rowIs w1.heap.size 5 2 (rwB [0, 0]))) ∨ (q = .int .i64 (n / 256) ∧ i = .int .i64 (0) ∧ Hid (wr.rowIs w1.heap.size 5 2 (rwB [0, (n) % 256]))) ∨ (q = .int .i64 (n / 256 / 256) ∧ i = .int .i64 (-1) ∧ Hid (wr.rowIs w1.heap.size 5 2 (rwB [(n / 256) % 256, (n) % 256]))))) (fun _ i _ => (intOf i + 1).toNat)
  case atStart => exact ⟨(Below.refl _ _).alloc (Nat.le_refl _) _, Or.inl ⟨rfl, rfl, hide ((World.rowIs_made w1 (.int .u8 0) 2 _).congr (fun k hk => by rcases (show k = 0 ∨ k = 1 by omega) with rfl | rfl <;> rfl))⟩⟩
  case round =>
    obtain ⟨hb, hrel⟩ := hrel
    rcases hrel with ⟨rfl, rfl, HR⟩ | ⟨rfl, rfl, HR⟩ | ⟨rfl, rfl, HR⟩
    · have hf := HR.out.frozen 1
      have hcc := HR.out.cell (i := 1) (by omega)
      go_wp2_with fail
      go_roundw
      case rel =>
        refine ⟨hb.setCell (Nat.le_refl _) _, Or.inr (Or.inl ?_)⟩
        refine ⟨by first | rfl | (go_num), by first | rfl | (go_num), hide ((HR.out.set 1 _).congr (fun k hk => ?_))⟩
        rcases (show k = 0 ∨ k = 1 by omega) with rfl | rfl <;> first | rfl | (unfold rwB; simp; done) | (unfold rwB; simp; omega)
      case measure => simp [intOf]
    · have hf := HR.out.frozen 0
      have hcc := HR.out.cell (i := 0) (by omega)
      go_wp2_with fail
      go_roundw
      case rel =>
        refine ⟨hb.setCell (Nat.le_refl _) _, Or.inr (Or.inr ?_)⟩
        refine ⟨by first | rfl | (go_num), by first | rfl | (go_num), hide ((HR.out.set 0 _).congr (fun k hk => ?_))⟩
        rcases (show k = 0 ∨ k = 1 by omega) with rfl | rfl <;> first | rfl | (unfold rwB; simp; done) | (unfold rwB; simp; omega)
      case measure => simp [intOf]
    · have hcv := conv_row wr w1.heap.size [(n / 256) % 256, (n) % 256] (by intro x hx; simp only [List.mem_cons, List.not_mem_nil, or_false] at hx; rcases hx with rfl | rfl <;> omega) HR.out
      simp only [List.length_cons, List.length_nil, Nat.zero_add, Nat.reduceAdd] at hcv
      go_wp2_with fail
      go_ret
      refine ⟨?_, (unhide HB).trans (hb.mono hz)⟩
      exact ret_str (by rw [show n / 256 % 256 = n / 256 by omega])

end Go.Proofs.YtiflfcjocngiiaaGreatDoor

/- The walks of the program's recordCounter: event. No conditions. -/

namespace Go.Proofs.YtiflfcjocngiiaaGreatDoor
open Go Go.RowKit

/-- What an event that is put comes to. -/
def evFits (l : List UInt8) (e : Ev) : Prop := evOkE e = true ∧ l.length + 2 + (evB e).length ≤ 2000
theorem two_eq (n : Nat) : (⟨#[hb ((n : Int) / 256), hb ((n : Int) % 256)]⟩ : ByteArray) = bA (twoB n) := by
  unfold bA twoB hb
  congr 1

set_option maxRecDepth 100000 in
set_option maxHeartbeats 3200000 in
theorem rcevent_yes (base B : Nat) (w : World) (a : Option Addr) (n cap : Nat) (l : List UInt8) (ev : Ev) (P : Nat → Prop) (c : C5) (hP : ∀ b, P b → b < w.heap.size) (hrep : Rep P w ev.t c) (hty : ev.ty.size ≤ 9223372036854775807) (hver : I64 ev.ver) (hT : Tab w) (h : Rw base B w (.slice a n cap) l) (hnl : n = l.length) (hf : evFits l ev) :
    Calls Tryz.prog 60 #[.pointer (some ⟨B, 0, none⟩), .agg #[.string ev.ty, .int .i64 ev.ver, c.c0, c.c1, c.c2, c.c3, c.c4]] w fun e w' => e = .returned (.tuple #[]) ∧ Sp base B w w' ∧ ∃ a n cap, n = (l ++ (twoB (evB ev).length ++ evB ev)).length ∧ Rw base B w' (.slice a n cap) (l ++ (twoB (evB ev).length ++ evB ev)) := by
  obtain ⟨c0, c1, c2, c3, c4⟩ := c
  obtain ⟨hok, hfit⟩ := hf
  have hbx : ∀ o, Below w.heap.size w (w.alloc o) := fun o => (Below.refl _ _).alloc (Nat.le_refl _) o
  have HPK := hide (fun o => implEventPack_any ev.ty ev.ver ev.t P ⟨c0, c1, c2, c3, c4⟩ (w.alloc o) (fun b hb => Nat.lt_of_lt_of_le (hP b hb) (hbx o).size) (Rep.carry (fun b hb => (hbx o).block b (hP b hb)) (fun _ h => h) _ _ hrep) hty hver (hT.of_block ((hbx o).block 0 hT.lt)))
  have HPOS := hide (evB_pos hok)
  have HFIT := hide hfit; have H := hide h; have HNL := hide hnl; have HBX := hide hbx
  have HEV : Hid (evB ev = packB ev.ty ev.ver ev.t) := hide rfl
  clear hbx hP hrep hty hver hT hok hfit h hnl
  go_enter Tryz.func60, Tryz.ntmps60
  go_wp2_with fail
  refine (unhide HPK _).mono ?_
  rintro e w1 ⟨a1, n1, cap1, rfl, hn1, hrow1, hb1⟩
  rw [← HEV.out] at hrow1 hn1
  have hb01 := (unhide HBX _).trans (hb1.mono (unhide HBX _).size)
  have hpos := unhide HPOS
  obtain ⟨g1, cap1', hv1, hg1, hg1lt, hcell1⟩ := hrow1.form hpos
  simp only [Value.slice.injEq] at hv1
  obtain ⟨rfl, -, rfl⟩ := hv1
  rw [World.size_alloc] at hg1
  have hst1 := (unhide H).on hb01
  have hgt : decide (0 < n1) = true := decide_eq_true (by omega)
  have hn2000 : (n1 : Int) < 65536 := by have := unhide HFIT; omega
  have HB01 := hide hb01; have HST1 := hide hst1; have HN1 := hide hn1; have HCE := hide hcell1; have HG1 := hide (And.intro hg1 hg1lt)
  clear hb01 hst1 hrow1 hb1 HPK hn1 hcell1 hpos hg1 hg1lt
  go_wp2_with fail
  refine (want_yes _ _).mono ?_
  rintro e w2 ⟨rfl, hw2⟩
  have hw2' := hw2.symm
  subst hw2'
  have HB2 := hide (fun W => bytesOf2_any (n1 : Int) (by omega) hn2000 W)
  rw [two_eq n1] at HB2
  go_wp2_with fail
  refine (unhide HB2 _).mono ?_
  rintro e w3 ⟨rfl, hb3⟩
  clear hgt
  obtain ⟨cap3, W4, hrun4, hgrow4, hlt4, hcell4⟩ := bytes_of w3 (bA (twoB n1))
  have hb34 : Below w3.heap.size w3 W4 := (Below.refl _ _).grown hgrow4 (Nat.le_refl _) (by simp)
  have hb14 : Below w1.heap.size w1 W4 := hb3.trans (hb34.mono hb3.size)
  have hsz4 : (bA (twoB n1)).size = 2 := by rw [bA_size]; rfl
  rw [hsz4] at hrun4
  have hst4 := (unhide HST1).on hb14
  have hs14 := hb14.size
  have HPUT := hide (rcput_yes base B W4 a n cap l (twoB n1) ⟨w3.heap.size, 0, none⟩ 2 cap3 hst4 rfl hcell4 (unhide HNL) (by have := unhide HFIT; show _ + 2 ≤ _; omega))
  have HHB := hide hb14; have HST4 := hide hst4
  clear hb34 hb14 hst4 hcell4 hgrow4 hsz4 HB2
  go_wp2_with fail
  refine (unhide HPUT).mono ?_
  rintro e w5 ⟨rfl, ⟨hsp5, hfr5⟩, a5, n5, cap5, hn5, hst5⟩
  have hown := (unhide HST1).row.own
  have hcell5 : ∀ j u, (bc (evB ev))[j]? = some u → w5.cell? ((⟨g1, 0, none⟩ : Addr).add j) = some u := fun j u hj => by
    have hblk : w5.heap[g1]? = w1.heap[g1]? := (hfr5 g1 (by have := (unhide HG1).2; omega) (by have := (unhide H).cells.lt; have := (unhide HG1).1; omega) (fun e => by have := ((unhide H).row.own g1 e).2; have := (unhide HG1).1; omega)).trans ((unhide HHB).block g1 (unhide HG1).2)
    rw [Addr.add_lit, World.cell?_of_block (w := w1) hblk]
    have := unhide HCE j u hj
    rw [Addr.add_lit] at this
    exact this
  have HPUT2 := hide (rcput_yes base B w5 a5 n5 cap5 (l ++ twoB n1) (evB ev) ⟨g1, 0, none⟩ n1 cap1 hst5 (unhide HN1) hcell5 hn5 (by have := unhide HFIT; rw [List.length_append]; show _ + 2 + _ ≤ _; omega))
  have HSP5 := hide (((Sp.but (But.of_below (unhide HB01)) : Sp base B w w1).trans (Sp.but (But.of_below (unhide HHB)))).trans hsp5)
  clear hsp5 hfr5 hn5 hst5 hcell5 hown HPUT
  go_wp2_with fail
  refine (unhide HPUT2).mono ?_
  rintro e w6 ⟨rfl, ⟨hsp6, -⟩, hend⟩
  rw [List.append_assoc, unhide HN1] at hend
  have HSP6 := hide ((unhide HSP5).trans hsp6); have HEND := hide hend
  clear hsp6 hend HPUT2
  go_wp2_with fail
  go_end0
  exact ⟨rfl, unhide HSP6, unhide HEND⟩
end Go.Proofs.YtiflfcjocngiiaaGreatDoor

/- The walk of the program's recordCounter.event where the event is not ok, or does not fit. No conditions. -/

namespace Go.Proofs.YtiflfcjocngiiaaGreatDoor
open Go Go.RowKit

set_option maxRecDepth 100000 in
set_option maxHeartbeats 3200000 in
theorem rcevent_no (base B : Nat) (w : World) (a : Option Addr) (n cap : Nat) (l : List UInt8) (ev : Ev) (P : Nat → Prop) (c : C5) (hP : ∀ b, P b → b < w.heap.size) (hrep : Rep P w ev.t c) (hty : ev.ty.size ≤ 9223372036854775807) (hver : I64 ev.ver) (hT : Tab w) (h : Rw base B w (.slice a n cap) l) (hnl : n = l.length) (hl : l.length ≤ 2000) (hf : ¬ evFits l ev) :
    Calls Tryz.prog 60 #[.pointer (some ⟨B, 0, none⟩), .agg #[.string ev.ty, .int .i64 ev.ver, c.c0, c.c1, c.c2, c.c3, c.c4]] w fun e w' => e = rfE ∧ Sp base B w w' := by
  obtain ⟨c0, c1, c2, c3, c4⟩ := c
  have hbx : ∀ o, Below w.heap.size w (w.alloc o) := fun o => (Below.refl _ _).alloc (Nat.le_refl _) o
  have HPK := hide (fun o => implEventPack_any ev.ty ev.ver ev.t P ⟨c0, c1, c2, c3, c4⟩ (w.alloc o) (fun b hb => Nat.lt_of_lt_of_le (hP b hb) (hbx o).size) (Rep.carry (fun b hb => (hbx o).block b (hP b hb)) (fun _ h => h) _ _ hrep) hty hver (hT.of_block ((hbx o).block 0 hT.lt)))
  have H := hide h; have HNL := hide hnl; have HBX := hide hbx; have HL := hide hl; have HF := hide hf
  have HEV : Hid (evB ev = packB ev.ty ev.ver ev.t) := hide rfl
  have HEL := hide (evB_len ev)
  clear hbx hP hrep hty hver hT h hnl hl hf
  go_enter Tryz.func60, Tryz.ntmps60
  go_wp2_with fail
  refine (unhide HPK _).mono ?_
  rintro e w1 ⟨a1, n1, cap1, rfl, hn1, hrow1, hb1⟩
  rw [← HEV.out] at hrow1 hn1
  have hb01 := (unhide HBX _).trans (hb1.mono (unhide HBX _).size)
  have HB01 := hide hb01
  by_cases hok : evOkE ev = true
  · have hpos := evB_pos hok
    obtain ⟨g1, cap1', hv1, hg1, hg1lt, hcell1⟩ := hrow1.form hpos
    simp only [Value.slice.injEq] at hv1
    obtain ⟨rfl, -, rfl⟩ := hv1
    rw [World.size_alloc] at hg1
    have hst1 := (unhide H).on hb01
    have hgt : decide (0 < n1) = true := decide_eq_true (by omega)
    have hn2000 : (n1 : Int) < 65536 := by have := unhide HEL; omega
    have HFIT := hide (show 2000 < l.length + 2 + (evB ev).length from Classical.byContradiction fun hh => unhide HF ⟨hok, by omega⟩)
    have HST1 := hide hst1; have HN1 := hide hn1; have HCE := hide hcell1; have HG1 := hide (And.intro hg1 hg1lt)
    clear hb01 hst1 hrow1 hb1 HPK hn1 hcell1 hpos hg1 hg1lt hok HF
    go_wp2_with fail
    refine (want_yes _ _).mono ?_
    rintro e w2 ⟨rfl, hw2⟩
    have hw2' := hw2.symm
    subst hw2'
    have HB2 := hide (fun W => bytesOf2_any (n1 : Int) (by omega) hn2000 W)
    rw [two_eq n1] at HB2
    go_wp2_with fail
    refine (unhide HB2 _).mono ?_
    rintro e w3 ⟨rfl, hb3⟩
    clear hgt
    obtain ⟨cap3, W4, hrun4, hgrow4, hlt4, hcell4⟩ := bytes_of w3 (bA (twoB n1))
    have hb34 : Below w3.heap.size w3 W4 := (Below.refl _ _).grown hgrow4 (Nat.le_refl _) (by simp)
    have hb14 : Below w1.heap.size w1 W4 := hb3.trans (hb34.mono hb3.size)
    have hsz4 : (bA (twoB n1)).size = 2 := by rw [bA_size]; rfl
    rw [hsz4] at hrun4
    have hst4 := (unhide HST1).on hb14
    have hs14 := hb14.size
    have HHB := hide hb14
    by_cases h2 : l.length + 2 ≤ 2000
    · have HPUT := hide (rcput_yes base B W4 a n cap l (twoB n1) ⟨w3.heap.size, 0, none⟩ 2 cap3 hst4 rfl hcell4 (unhide HNL) h2)
      clear hb34 hb14 hst4 hcell4 hgrow4 hsz4 HB2 h2
      go_wp2_with fail
      refine (unhide HPUT).mono ?_
      rintro e w5 ⟨rfl, ⟨hsp5, hfr5⟩, a5, n5, cap5, hn5, hst5⟩
      have HPUT2 := hide (rcput_no base B w5 a5 n5 cap5 (l ++ twoB n1) (evB ev) ⟨g1, 0, none⟩ n1 cap1 hst5 (unhide HN1) hn5 (by have := unhide HFIT; rw [List.length_append]; show 2000 < _ + 2 + _; omega) (by have := unhide HEL; have := unhide HL; rw [List.length_append]; show _ + 2 + _ ≤ _; omega))
      have HSP5 := hide (((Sp.but (But.of_below (unhide HB01)) : Sp base B w w1).trans (Sp.but (But.of_below (unhide HHB)))).trans hsp5)
      clear hsp5 hfr5 hn5 hst5 HPUT
      go_wp2_with fail
      refine (unhide HPUT2).mono ?_
      rintro e w6 ⟨rfl, hb6⟩
      have HB6 := hide ((unhide HSP5).trans (Sp.but (But.of_below hb6)))
      clear hb6
      go_wp2_with fail
      exact ⟨rfl, rfl, unhide HB6⟩
    · have HPUT := hide (rcput_no base B W4 a n cap l (twoB n1) ⟨w3.heap.size, 0, none⟩ 2 cap3 hst4 rfl (unhide HNL) (by show 2000 < _ + 2; omega) (by have := unhide HL; show _ + 2 ≤ _; omega))
      clear hb34 hb14 hst4 hcell4 hgrow4 hsz4 HB2 h2
      go_wp2_with fail
      refine (unhide HPUT).mono ?_
      rintro e w5 ⟨rfl, hb5⟩
      have HB5 := hide ((((Sp.but (But.of_below (unhide HB01)) : Sp base B w w1).trans (Sp.but (But.of_below (unhide HHB))))).trans (Sp.but (But.of_below hb5)))
      clear hb5
      go_wp2_with fail
      exact ⟨rfl, rfl, unhide HB5⟩
  · have hn0 : n1 = 0 := by rw [hn1, evB_nil (by simpa using hok)]; rfl
    subst hn0
    clear hok hb01 hrow1 hn1 hb1 HPK
    go_wp2_with fail
    refine (want_no _ _).mono ?_
    rintro e w2 ⟨rfl, hw2⟩
    have hw2' := hw2.symm
    subst hw2'
    have HB5 := hide (Sp.but (But.of_below (unhide HB01)) : Sp base B w w1)
    go_wp2_with fail
    exact ⟨rfl, rfl, unhide HB5⟩
end Go.Proofs.YtiflfcjocngiiaaGreatDoor
