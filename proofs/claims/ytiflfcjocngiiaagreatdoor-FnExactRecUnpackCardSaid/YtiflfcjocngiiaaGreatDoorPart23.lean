/- The walk of the closure of the program's RecUnpack: what it reads is put into its box. Conditions: the table treeFields is as its text lays it; the text has at most 2^20 bytes. -/
import Derived.Test.YtiflfcjocngiiaaGreatDoorPart22
import Derived.Lib.ConvBytes
import Derived.Lib.AtoiErrMem
import Derived.Deep.RegionWith
import Derived.Deep.RegionLaw
import Derived.Test.YtiflfcjocngiiaaGreatDoorPart04
import Derived.Test.YtiflfcjocngiiaaGreatDoorPart02
import Derived.Test.YtiflfcjocngiiaaGreatDoorPart03
import Derived.Maps.OwnSet
import Derived.Maps.OwnOps
import Derived.Maps.Views
import Derived.Deep.Draws
import Derived.Test.YtiflfcjocngiiaaGreatDoorPart19
import Derived.Deep.CutRange
namespace Go.Proofs.YtiflfcjocngiiaaGreatDoor
open Go Go.RowKit

/-- The bytes of a text, in a block that is new. -/
theorem conv_in (w : World) (s : ByteArray) (hs : s.size ≤ 1048576) : ∃ cap W, (convert 9 31 (.string s)).run Tryz.prog w = .ok (.slice (some ⟨w.heap.size, 0, none⟩) s.size cap) W ∧ ByIn W (.slice (some ⟨w.heap.size, 0, none⟩) s.size cap) s.data.toList ∧ Below w.heap.size w W ∧ W.heap.size = w.heap.size + 1 := by
  have hl : s.data.toList.length = s.size := by rw [Array.length_toList]; rfl
  refine ⟨_, _, Lib.run_convert_string_bytes w 9 31 5 s Tryz.underlying9 Tryz.underlying31 Tryz.underlying5, ⟨by rw [hl]; omega, Or.inr ⟨w.heap.size, 0, _, by rw [hl], by rw [hl]; exact grownCap_ge _ _ _ _, by rw [Lib.bytesWorld_size]; omega, fun i hi => ?_⟩⟩, Lib.bytesWorld_below _ _ _, Lib.bytesWorld_size _ _ _⟩
  rw [Nat.zero_add, Lib.bytesWorld_cell w _ s i (by omega)]
  congr 4
  simp only [List.getD_eq_getElem?_getD, List.getElem?_eq_getElem hi, Option.getD_some]
/-- What the closure finds: the boxes of the text, of the position, and of what is read. -/
structure RwAt (X : Nat) (w : World) (s : ByteArray) (pos : Int) : Prop where
  bp : w.rowIs X 3 1 (fun _ => .int .i64 pos)
  bd : w.rowIs (X + 1) 9 1 (fun _ => .string s)
  br : w.rowIs (X + 3) 24 3 (row3 (.int .i64 0) (.string ByteArray.empty) (.slice none 0 0))
  small : s.size ≤ 1048576
set_option maxRecDepth 100000 in
set_option maxHeartbeats 1600000 in
theorem recWork_yes (X : Nat) (w : World) (s : ByteArray) (pos : Int) (h : RwAt X w s pos) (hT : Tab w) (key : ByteArray) (es : List Ev) (hrf : recF s.data.toList = some (key, es)) :
    Calls Tryz.prog 14 #[.pointer (some ⟨X + 1, 0, none⟩), .pointer (some ⟨X, 0, none⟩), .pointer (some ⟨X + 3, 0, none⟩)] w fun e w' => e = .returned (.tuple #[]) ∧ (∃ u F, w'.rowIs (X + 3) 24 3 (row3 (.int .i64 pos) (.string key) u) ∧ EvsOwn w' u es F ∧ F.Nodup ∧ ∀ x, x ∈ F → w.heap.size ≤ x ∧ x < w'.heap.size) ∧ But (X + 3) w w' := by
  obtain ⟨cap, W1, hconv, hby, hb1, hs1⟩ := conv_in w.drew s h.small
  have hl : s.data.toList.length = s.size := by rw [Array.length_toList]; rfl
  have hws : w.drew.heap.size = w.heap.size := rfl
  have hbw : Below w.heap.size w W1 := ⟨hb1.os, hb1.tape, hb1.output, by rw [hs1, hws]; omega, fun i hi => hb1.block i hi⟩
  have hbA : Below w.heap.size w (W1.alloc (.cells #[.int .i64 0, .int .i64 (s.size : Int), .slice (some ⟨w.heap.size, 0, none⟩) s.size cap] 59)) := hbw.alloc (by rw [hs1, hws]; omega) _
  have hcu : Cu W1.heap.size (W1.alloc (.cells #[.int .i64 0, .int .i64 (s.size : Int), .slice (some ⟨w.heap.size, 0, none⟩) s.size cap] 59)) (.slice (some ⟨w.heap.size, 0, none⟩) s.size cap) s.data.toList 0 :=
    ⟨by rw [hl]; exact row3_alloc W1 _ _ _ _, hby.alloc _, fun g e => by simp only [Value.ownBlock, Option.some.injEq] at e; rw [hs1, hws]; omega, Nat.zero_le _, by rw [hl]; exact h.small⟩
  have hTA := hT.of_block (hbA.block 0 hT.lt)
  have hbr := h.br.of_block (hbA.block _ h.br.lt)
  have HRC : Hid (Calls Tryz.prog 16 #[.pointer (some ⟨W1.heap.size, 0, none⟩), .int .i64 pos] (W1.alloc (.cells #[.int .i64 0, .int .i64 (s.size : Int), .slice (some ⟨w.heap.size, 0, none⟩) s.size cap] 59)) fun e w' => ∃ ad cp F, e = .returned (.agg #[.int .i64 pos, .string key, .slice ad es.length cp]) ∧ Hid (EvsOwn w' (.slice ad es.length cp) es F) ∧ Hid (F.Nodup) ∧ Hid (∀ x, x ∈ F → w.heap.size ≤ x ∧ x < w'.heap.size ∧ x ≠ X + 3) ∧ Hid (Below w.heap.size w w') ∧ w'.cell? ⟨X + 3, 0, none⟩ = some (.int .i64 0) ∧ w'.cell? ⟨X + 3, 1, none⟩ = some (.string ByteArray.empty) ∧ w'.cell? ⟨X + 3, 2, none⟩ = some (.slice none 0 0) ∧ (∀ o, w'.frozen? ⟨X + 3, o, none⟩ = false)) := by
    refine (recordP_any W1.heap.size _ _ s.data.toList pos hcu hTA (by rw [hs1, hws]; have := hT.lt; omega)).mono ?_
    rintro e w2 ⟨hb2, ⟨key', es', u, F, h1, rfl, h2, h3, h4⟩ | ⟨h1, -⟩⟩
    · rw [hrf] at h1
      simp only [Option.some.injEq, Prod.mk.injEq] at h1
      obtain ⟨rfl, rfl⟩ := h1
      obtain ⟨ad, cp, hu, h5, h6⟩ := h2
      subst hu
      have hr2 := hbr.of_block (hb2.at hbr.lt (by rw [hs1, hws]; have := h.br.lt; omega))
      have hbB : Below w.heap.size w w2 := ⟨hb2.os.trans hbA.os, hb2.tape.trans hbA.tape, hb2.output.trans hbA.output, Nat.le_trans hbA.size hb2.size, fun i hi => (hb2.at (by rw [World.size_alloc, hs1, hws]; omega) (by rw [hs1, hws]; omega)).trans (hbA.block i hi)⟩
      exact ⟨ad, cp, F, rfl, ⟨ad, cp, rfl, h5, h6⟩, h3, fun x hx => ⟨by have := (h4 x hx).1; rw [World.size_alloc, hs1, hws] at this; omega, (h4 x hx).2, by have := (h4 x hx).1; rw [World.size_alloc, hs1, hws] at this; have := h.br.lt; omega⟩, hbB, hr2.cell (i := 0) (by omega), hr2.cell (i := 1) (by omega), hr2.cell (i := 2) (by omega), hr2.frozen⟩
    · rw [hrf] at h1; cases h1
  have k0 := h.bd.cell (i := 0) (by omega); have k1 := h.bp.cell (i := 0) (by omega)
  have kW : W1.cell? ⟨X, 0, none⟩ = some (.int .i64 pos) := by rw [World.cell?_of_block (w := w) (hbw.block _ h.bp.lt)]; exact k1
  have kA : (W1.alloc (.cells #[.int .i64 0, .int .i64 (s.size : Int), .slice (some ⟨w.heap.size, 0, none⟩) s.size cap] 59)).cell? ⟨X, 0, none⟩ = some (.int .i64 pos) := by rw [World.cell?_of_block (w := w) (hbA.block _ h.bp.lt)]; exact k1
  have HBR := hide h.br
  rw [hws] at hconv
  clear hcu hTA hbr hbA hbw hby hb1 h hT hrf hl hs1 hws
  go_enter Tryz.func14, Tryz.ntmps14
  go_region_with (first
    | (go_at_call 15; refine (newCursor_any _ _ _ _).mono ?_; rintro e w' ⟨rfl, rfl⟩)
    | (go_at_call 16; refine (unhide HRC).mono ?_; rintro e w2 ⟨ad, cp, F, rfl, H1, H2, H3, H4, m0, m1, m2, mf⟩))
  all_goals
    go_end0
    have hset : But (X + 3) w2 (((w2.setCell ⟨X + 3, 0, none⟩ (.int .i64 pos)).setCell ⟨X + 3, 1, none⟩ (.string key)).setCell ⟨X + 3, 2, none⟩ (.slice ad es.length cp)) := ((But.set w2 0 _).trans (But.set _ 1 _)).trans (But.set _ 2 _)
    have hr2 := (unhide HBR).of_block (H4.out.block _ (unhide HBR).lt)
    refine ⟨rfl, ⟨_, F, ?_, H1.out.carry (fun x hx => hset.at (H3.out x hx).2.1 (H3.out x hx).2.2), H2.out, fun x hx => ⟨(H3.out x hx).1, by simp only [World.size_setCell]; exact (H3.out x hx).2.1⟩⟩, (But.of_below H4.out).trans hset⟩
    exact (((hr2.set 0 (.int .i64 pos)).set 1 (.string key)).set 2 (.slice ad es.length cp)).congr (fun i hi => by rcases (show i = 0 ∨ i = 1 ∨ i = 2 by omega) with rfl | rfl | rfl <;> rfl)
set_option maxRecDepth 100000 in
set_option maxHeartbeats 1600000 in
theorem recWork_no (X : Nat) (w : World) (s : ByteArray) (pos : Int) (h : RwAt X w s pos) (hT : Tab w) (hrf : recF s.data.toList = none) :
    Calls Tryz.prog 14 #[.pointer (some ⟨X + 1, 0, none⟩), .pointer (some ⟨X, 0, none⟩), .pointer (some ⟨X + 3, 0, none⟩)] w fun e w' => e = fltE ∧ Below w.heap.size w w' := by
  obtain ⟨cap, W1, hconv, hby, hb1, hs1⟩ := conv_in w.drew s h.small
  have hl : s.data.toList.length = s.size := by rw [Array.length_toList]; rfl
  have hws : w.drew.heap.size = w.heap.size := rfl
  have hbw : Below w.heap.size w W1 := ⟨hb1.os, hb1.tape, hb1.output, by rw [hs1, hws]; omega, fun i hi => hb1.block i hi⟩
  have hbA : Below w.heap.size w (W1.alloc (.cells #[.int .i64 0, .int .i64 (s.size : Int), .slice (some ⟨w.heap.size, 0, none⟩) s.size cap] 59)) := hbw.alloc (by rw [hs1, hws]; omega) _
  have hcu : Cu W1.heap.size (W1.alloc (.cells #[.int .i64 0, .int .i64 (s.size : Int), .slice (some ⟨w.heap.size, 0, none⟩) s.size cap] 59)) (.slice (some ⟨w.heap.size, 0, none⟩) s.size cap) s.data.toList 0 :=
    ⟨by rw [hl]; exact row3_alloc W1 _ _ _ _, hby.alloc _, fun g e => by simp only [Value.ownBlock, Option.some.injEq] at e; rw [hs1, hws]; omega, Nat.zero_le _, by rw [hl]; exact h.small⟩
  have hTA := hT.of_block (hbA.block 0 hT.lt)
  have HRC : Hid (Calls Tryz.prog 16 #[.pointer (some ⟨W1.heap.size, 0, none⟩), .int .i64 pos] (W1.alloc (.cells #[.int .i64 0, .int .i64 (s.size : Int), .slice (some ⟨w.heap.size, 0, none⟩) s.size cap] 59)) fun e w' => e = fltE ∧ Below w.heap.size w w') := by
    refine (recordP_any W1.heap.size _ _ s.data.toList pos hcu hTA (by rw [hs1, hws]; have := hT.lt; omega)).mono ?_
    rintro e w2 ⟨hb2, ⟨key', es', u, F, h1, -, -, -, -⟩ | ⟨-, rfl⟩⟩
    · rw [hrf] at h1; cases h1
    · exact ⟨rfl, ⟨hb2.os.trans hbA.os, hb2.tape.trans hbA.tape, hb2.output.trans hbA.output, Nat.le_trans hbA.size hb2.size, fun i hi => (hb2.at (by rw [World.size_alloc, hs1, hws]; omega) (by rw [hs1, hws]; omega)).trans (hbA.block i hi)⟩⟩
  have k0 := h.bd.cell (i := 0) (by omega); have k1 := h.bp.cell (i := 0) (by omega)
  have kW : W1.cell? ⟨X, 0, none⟩ = some (.int .i64 pos) := by rw [World.cell?_of_block (w := w) (hbw.block _ h.bp.lt)]; exact k1
  have kA : (W1.alloc (.cells #[.int .i64 0, .int .i64 (s.size : Int), .slice (some ⟨w.heap.size, 0, none⟩) s.size cap] 59)).cell? ⟨X, 0, none⟩ = some (.int .i64 pos) := by rw [World.cell?_of_block (w := w) (hbA.block _ h.bp.lt)]; exact k1
  have m0 := h.br.cell (i := 0) (by omega); have m1 := h.br.cell (i := 1) (by omega); have m2 := h.br.cell (i := 2) (by omega); have mf := h.br.frozen
  simp only [row3] at m0 m1 m2
  rw [hws] at hconv
  clear hcu hTA hbA hbw hby hb1 h hT hrf hl hs1 hws
  go_enter Tryz.func14, Tryz.ntmps14
  go_region_law (first
    | (rw [if_pos (by first | rfl | simp [Region.wanted])]; go_simp; refine (newCursor_any _ _ _ _).mono ?_; rintro e w' ⟨rfl, rfl⟩)
    | (rw [if_pos (by first | rfl | simp [Region.wanted])]; go_simp; refine (unhide HRC).mono ?_; rintro e w2 ⟨rfl, hb2⟩; refine dead_end (by assumption) { tmps := #[undef, undef, .pointer (some ⟨X + 3, 0, none⟩), undef, undef, undef, undef, .agg #[.int .i64 0, .string ByteArray.empty, .slice none 0 0]], defers := [] } w (And.intro rfl (And.intro rfl hb2)) (fun HF => ?_)))
  all_goals exact (unhide HF).elim
end Go.Proofs.YtiflfcjocngiiaaGreatDoor

/- Names with the places at which they stand, in a map of the call's own. No conditions. -/

namespace Go.Proofs.YtiflfcjocngiiaaGreatDoor
open Go Go.RowKit Go.WideMaps Go.Maps

def rowO (c0 c1 : Value) : Nat → Value
  | 0 => c0
  | _ => c1
theorem rowO_alloc (w : World) (c0 c1 : Value) (t : TypeId) : (w.alloc (.cells #[c0, c1] t)).rowIs w.heap.size t 2 (rowO c0 c1) :=
  World.rowIs_alloc w #[c0, c1] t _ (fun i hi => by
    have hi' : i < 2 := hi
    match i, hi' with
    | 0, _ => rfl
    | 1, _ => rfl)


end Go.Proofs.YtiflfcjocngiiaaGreatDoor

/- The program's recordCounter in memory, and the walks of its want, put. No conditions. -/

namespace Go.Proofs.YtiflfcjocngiiaaGreatDoor
open Go Go.RowKit

/-- A record's fault is raised. -/
abbrev rfE : Ending := .panicked [{ v := .iface 78 (.agg #[]), recovered := false }]

set_option maxHeartbeats 400000 in
theorem want_yes (B : Nat) (w : World) : Calls Tryz.prog 56 #[.pointer (some ⟨B, 0, none⟩), .bool true] w fun e w' => e = .returned (.tuple #[]) ∧ w' = w := by
  go_enter Tryz.func56, Tryz.ntmps56
  go_wp2_with fail
  go_end0
  exact ⟨rfl, rfl⟩

set_option maxHeartbeats 400000 in
theorem want_no (B : Nat) (w : World) : Calls Tryz.prog 56 #[.pointer (some ⟨B, 0, none⟩), .bool false] w fun e w' => e = rfE ∧ w' = w := by
  go_enter Tryz.func56, Tryz.ntmps56
  go_wp2_with fail
  exact ⟨rfl, rfl, rfl⟩

/-- The counter: the bytes that were put, and how many there may be. -/
structure Rw (base B : Nat) (w : World) (v : Value) (l : List UInt8) : Prop where
  cells : w.rowIs B 83 2 (rowO v (.int .i64 2000))
  row : ByRow base w v l
  lt : base ≤ B
theorem Rw.alloc {base B : Nat} {w : World} {v : Value} {l : List UInt8} (h : Rw base B w v l) (o : Obj) : Rw base B (w.alloc o) v l :=
  ⟨h.cells.alloc o, World.ownsRow.alloc h.row o, h.lt⟩
theorem Rw.size {base B : Nat} {w : World} {v : Value} {l : List UInt8} (h : Rw base B w v l) : base ≤ w.heap.size := by
  have := h.cells.lt; have := h.lt; omega
theorem Rw.on {base B : Nat} {w w' : World} {v : Value} {l : List UInt8} (h : Rw base B w v l) (hb : Below w.heap.size w w') : Rw base B w' v l :=
  ⟨h.cells.of_block (hb.block _ h.cells.lt), h.row.stay hb, h.lt⟩
/-- What a call that puts bytes comes to. -/
def RwEnd (base B : Nat) (w w' : World) (v : Value) (e : Ending) (l : List UInt8) : Prop := e = .returned (.tuple #[]) ∧ (Sp base B w w' ∧ ∀ b, b < w.heap.size → b ≠ B → v.ownBlock ≠ some b → w'.heap[b]? = w.heap[b]?) ∧ ∃ a n cap, n = l.length ∧ Rw base B w' (.slice a n cap) l
theorem rowO_pk0 {w : World} {B : Nat} {T : TypeId} {x y : Value} (h : w.rowIs B T 2 (rowO x y)) (v : Value) : (w.setCell ⟨B, 0, none⟩ v).rowIs B T 2 (rowO v y) :=
  (h.set 0 v).congr fun i hi => by
    rcases (show i = 0 ∨ i = 1 by omega) with rfl | rfl <;> rfl
theorem Rw.stored {base B : Nat} {w2 w3 : World} {v v' : Value} {l l' : List UInt8} (h : Rw base B w2 v l) (hg : w2.grownBy w3 v.ownBlock) (h3 : ByRow base w3 v' l') :
    w3.rowIs B 83 2 (rowO v (.int .i64 2000)) ∧ Rw base B (w3.setCell ⟨B, 0, none⟩ v') v' l' ∧ Sp base B w2 (w3.setCell ⟨B, 0, none⟩ v') := by
  have hr3 : w3.rowIs B 83 2 (rowO v (.int .i64 2000)) := h.cells.of_block (hg.block B h.cells.lt (fun e => ByRow.apart h.row h.cells (by decide) e.symm))
  exact ⟨hr3, ⟨rowO_pk0 hr3 v', ownsRow_setCell_other h3 (ByRow.apart h3 hr3 (by decide)) v', h.lt⟩, (Sp.grown h.row hg).trans (Sp.but (But.set w3 0 v'))⟩

set_option maxRecDepth 100000 in
set_option maxHeartbeats 1600000 in
theorem rwput_any (base B : Nat) (w : World) (a : Option Addr) (n cap : Nat) (l news : List UInt8) (ad : Addr) (m c : Nat) (h : Rw base B w (.slice a n cap) l) (hm : m = news.length) (hc : ∀ j u, (bc news)[j]? = some u → w.cell? (ad.add j) = some u) (hl : l.length + news.length ≤ 1099511627776) :
    Calls Tryz.prog 69 #[.pointer (some ⟨B, 0, none⟩), .slice (some ad) m c] w fun e w' => RwEnd base B w w' (.slice a n cap) e (l ++ news) := by
  have k0 := h.cells.cell (i := 0) (by omega)
  simp only [rowO] at k0
  have H := hide h; have HC := hide hc; have HM := hide hm; have HL := hide hl
  clear h hc hm hl
  go_enter Tryz.func69, Tryz.ntmps69
  go_wp2_with (at_builtin; refine append_bytes _ rfl _ _ rfl base (.slice a n cap) l news rfl (unhide H).row ad m c rfl (unhide HM) (unhide HC) (unhide HL) (unhide H).size ?_
               intro a' n' cap' w3 HN3 HR3 HG3
               have hst := (unhide H).stored HG3.out HR3.out
               obtain ⟨hr3, hw3, hsp3⟩ := hst
               have m2 := hr3.cell (i := 0) (by omega)
               have f2 := hr3.frozen 0
               simp only [rowO] at m2
               have HW3 := hide hw3
               have HSP3 := hide (And.intro hsp3 (fun b (hb : b < w.heap.size) (hne : b ≠ B) (hno : (Value.slice a n cap).ownBlock ≠ some b) => (Below.heap_setCell w3 ⟨B, 0, none⟩ (.slice a' n' cap') b hne).trans (HG3.out.block b hb (fun e => hno e.symm))))
               clear hr3 hw3 hsp3 HR3 HG3)
  go_end0
  exact ⟨rfl, unhide HSP3, a', n', cap', HN3.out, unhide HW3⟩

set_option maxRecDepth 100000 in
set_option maxHeartbeats 1600000 in
theorem rcput_yes (base B : Nat) (w : World) (a : Option Addr) (n cap : Nat) (l news : List UInt8) (ad : Addr) (m c : Nat) (h : Rw base B w (.slice a n cap) l) (hm : m = news.length) (hc : ∀ j u, (bc news)[j]? = some u → w.cell? (ad.add j) = some u) (hnl : n = l.length) (hl : l.length + news.length ≤ 2000) :
    Calls Tryz.prog 59 #[.pointer (some ⟨B, 0, none⟩), .slice (some ad) m c] w fun e w' => RwEnd base B w w' (.slice a n cap) e (l ++ news) := by
  have k0 := h.cells.cell (i := 0) (by omega); have k1 := h.cells.cell (i := 1) (by omega)
  simp only [rowO] at k0 k1
  have hle : decide ((n : Int) + m ≤ 2000) = true := by simp; omega
  have hle2 : (n : Int) + m ≤ 2000 := by omega
  have HP := hide (fun (k : Nat) => rwput_any base B (w.drewN k) a n cap l news ad m c ⟨h.cells.of_block (by simp), h.row.stay (below_drewN (Below.refl _ _) _), h.lt⟩ hm (fun j u hj => hc j u hj) (by omega))
  have HSPD := hide (fun (k : Nat) => (Sp.but (But.of_below (below_drewN (Below.refl w.heap.size w) k)) : Sp base B w (w.drewN k)))
  clear h hm hc hnl hl
  go_enter Tryz.func59, Tryz.ntmps59
  go_wp2_with fail
  go_quiet ((go_at_call 56; exact Calls.quiet_of_same (want_yes _ _)))
  go_wp2_with fail
  refine (unhide HP _).mono ?_
  rintro e w' ⟨rfl, ⟨hsp, hfr⟩, hend⟩
  have HSP := hide (And.intro ((unhide HSPD _).trans hsp) hfr); have HEND := hide hend
  clear hsp hfr hend HP HSPD
  go_wp2_with fail
  go_end0
  exact ⟨rfl, unhide HSP, unhide HEND⟩

set_option maxRecDepth 100000 in
set_option maxHeartbeats 1600000 in
theorem rcput_no (base B : Nat) (w : World) (a : Option Addr) (n cap : Nat) (l news : List UInt8) (ad : Addr) (m c : Nat) (h : Rw base B w (.slice a n cap) l) (hm : m = news.length) (hnl : n = l.length) (hl : 2000 < l.length + news.length) (hl2 : l.length + news.length ≤ 1099511627776) :
    Calls Tryz.prog 59 #[.pointer (some ⟨B, 0, none⟩), .slice (some ad) m c] w fun e w' => e = rfE ∧ Below w.heap.size w w' := by
  have k0 := h.cells.cell (i := 0) (by omega); have k1 := h.cells.cell (i := 1) (by omega)
  simp only [rowO] at k0 k1
  have hle : decide ((n : Int) + m ≤ 2000) = false := by simp; omega
  have hwr : IntKind.i64.wrap ((n : Int) + m) = (n : Int) + m := by rw [IntKind.wrap_i64]; omega
  clear h hm hnl hl hl2
  go_enter Tryz.func59, Tryz.ntmps59
  go_wp2_with fail
  go_region_law (rw [if_pos (by first | rfl | simp [Region.wanted])]; go_simp; refine (want_no _ _).mono ?_; rintro e w2 ⟨rfl, rfl⟩; refine dead_end (by assumption) { tmps := #[], defers := [] } w (And.intro rfl (And.intro rfl (Below.refl _ _).drew)) (fun HF => ?_))
  all_goals exact (unhide HF).elim
end Go.Proofs.YtiflfcjocngiiaaGreatDoor
