/- The program's DiskOk: what it answers, and that it turns nothing that was there. No conditions. -/
import Derived.Test.YtgdiankfnemjjaaGreatPart06
import Derived.Handy
import Derived.Test.YtgdiankfnemjjaaGreatPart07
import Derived.Test.YtgdiankfnemjjaaGreatPart21
namespace Go.Proofs.YtgdiankfnemjjaaGreat
open Go Go.RowKit

set_option maxRecDepth 100000 in
set_option maxHeartbeats 1600000 in
theorem implDiskOk_any (d : Dk) (P : Nat → Prop) (c : C3) (w : World) (hP : ∀ b, P b → b < w.heap.size) (hd : DkAt P w d c) :
    Calls Tryz.prog 33 #[.agg #[c.c0, c.c1, c.c2]] w fun e w' => RetIff e (DkOkP d) ∧ Below w.heap.size w w' := by
  obtain ⟨c0, c1, c2⟩ := c
  have hbx : ∀ o, Below w.heap.size w (w.alloc o) := fun o => (Below.refl _ _).alloc (Nat.le_refl _) o
  have HV := hide (fun o => viewsOf_any d P ⟨c0, c1, c2⟩ (w.alloc o) (fun b hb => Nat.lt_of_lt_of_le (hP b hb) (hbx o).size) (hd.carry (fun b hb => (hbx o).block b (hP b hb)) (fun _ h => h)))
  have HBX := hide hbx
  clear hd hP hbx
  go_enter Tryz.func33, Tryz.ntmps33
  go_wp2_with fail
  refine (unhide HV _).mono ?_
  rintro e w1 ⟨r, q0, q1, x2, n2, m2, q3, x4, n4, m4, rfl, hr, hb1, -⟩
  have HR := hide hr; have HB1 := hide ((unhide HBX _).trans (hb1.mono (unhide HBX _).size))
  clear hr hb1
  go_wp2_with fail
  go_ret
  exact ⟨⟨r, rfl, unhide HR⟩, (unhide HB1).alloc (unhide HB1).size _⟩
end Go.Proofs.YtgdiankfnemjjaaGreat

/- The walks of the program's refusalIf, firstRefusal (of two codes), movesFull. No conditions. -/

namespace Go.Proofs.YtgdiankfnemjjaaGreat
open Go Go.RowKit

set_option maxRecDepth 100000 in
theorem refusalIf_any (b : Bool) (c : Int) (w : World) : Calls Tryz.prog 96 #[.bool b, .int .i64 c] w fun e w' => e = .returned (.int .i64 (if b = true then c else 0)) ∧ w' = w := by
  cases b with
  | true =>
    go_enter Tryz.func96, Tryz.ntmps96
    go_wp2_with fail
    go_ret
    exact ⟨rfl, rfl⟩
  | false =>
    go_enter Tryz.func96, Tryz.ntmps96
    go_wp2_with fail
    go_ret
    exact ⟨rfl, rfl⟩

def fr2 (c0 c1 : Int) : Int := if c0 = 0 then c1 else c0
set_option maxRecDepth 100000 in
set_option maxHeartbeats 1600000 in
theorem firstRefusal_two (g : Nat) (c0 c1 : Int) (w : World) (h0 : w.cell? ⟨g, 0, none⟩ = some (.int .i64 c0)) (h1 : w.cell? ⟨g, 1, none⟩ = some (.int .i64 c1)) :
    Calls Tryz.prog 95 #[.slice (some ⟨g, 0, none⟩) 2 2] w fun e w' => e = .returned (.int .i64 (fr2 c0 c1)) ∧ w' = w := by
  have hcell : ∀ i : Nat, i < 2 → ∃ c : Int, w.cell? ⟨g, i, none⟩ = some (.int .i64 c) ∧ c = (if i = 0 then c0 else c1) := fun i hi => by
    match i, hi with
    | 0, _ => exact ⟨c0, h0, rfl⟩
    | 1, _ => exact ⟨c1, h1, rfl⟩
  have HC := hide hcell
  clear hcell h0 h1
  go_enter Tryz.func95, Tryz.ntmps95
  go_wp2_with fail
  go_loopw [7] (fun i wr => ∃ (k : Nat), k ≤ 2 ∧ i = .int .i64 k ∧ Hid (1 ≤ k → c0 = 0) ∧ Hid (2 ≤ k → c1 = 0) ∧ wr = w) (fun i _ => 2 - (intOf i).toNat)
  case atStart => exact ⟨0, by omega, rfl, fun h => by omega, fun h => by omega, rfl⟩
  case round =>
    obtain ⟨k, hk, rfl, H0, H1, rfl⟩ := hrel
    by_cases hlt : k < 2
    · obtain ⟨c, hc, hcv⟩ := unhide HC k hlt
      have HCV := hide hcv
      clear hcv
      by_cases hz : c = 0
      · go_wp2_with fail
        go_roundw
        case rel => exact ⟨k + 1, by omega, by go_num, fun _ => (by
            by_cases e : k = 0
            · subst e; have := unhide HCV; rw [if_pos rfl] at this; omega
            · exact H0.out (by omega)), fun h => (by
            have e : k = 1 := by omega
            subst e; have := unhide HCV; rw [if_neg (by decide)] at this; omega), trivial⟩
        case measure => simp [intOf]; omega
      · go_wp2_with fail
        go_ret
        have hf : fr2 c0 c1 = c := by
          unfold fr2
          by_cases e : k = 0
          · have h := unhide HCV; rw [if_pos e] at h
            rw [if_neg (by omega)]; omega
          · have h := unhide HCV; rw [if_neg e] at h
            rw [if_pos (H0.out (by omega))]; omega
        refine ⟨?_, rfl⟩
        rw [hf]; rfl
    · go_wp2_with fail
      go_ret
      have hf : fr2 c0 c1 = 0 := by
        unfold fr2
        rw [if_pos (H0.out (by omega))]; exact H1.out (by omega)
      refine ⟨?_, rfl⟩
      rw [hf]; rfl

set_option maxRecDepth 100000 in
set_option maxHeartbeats 1600000 in
theorem movesFull_any (q0 q1 x2 q3 x4 : Option Addr) (n2 m2 n4 m4 : Nat) (w : World) :
    Calls Tryz.prog 97 #[.agg #[.pointer q0, .pointer q1, .slice x2 n2 m2, .pointer q3, .slice x4 n4 m4]] w fun e w' => e = .returned (.bool (decide (128 ≤ n4))) ∧ Below w.heap.size w w' := by
  have hbx : ∀ o, Below w.heap.size w (w.alloc o) := fun o => (Below.refl _ _).alloc (Nat.le_refl _) o
  have HBX := hide hbx
  clear hbx
  have hd : decide ((128 : Int) ≤ (n4 : Int)) = decide (128 ≤ n4) := by
    rw [decide_eq_decide]; omega
  have HD := hide hd
  clear hd
  by_cases h : 128 ≤ n4
  · go_enter Tryz.func97, Tryz.ntmps97
    go_wp2_with fail
    go_ret
    refine ⟨?_, unhide HBX _⟩
    first | rfl | (simp [h]; done) | (rw [← unhide HD]; rfl)
  · go_enter Tryz.func97, Tryz.ntmps97
    go_wp2_with fail
    go_ret
    refine ⟨?_, unhide HBX _⟩
    first | rfl | (simp [h]; done) | (rw [← unhide HD]; rfl)
end Go.Proofs.YtgdiankfnemjjaaGreat

/- The walk of the program's refusal, where the kind is none of 1, 2, 4. No conditions but the bounds of a disk that is ok. -/

namespace Go.Proofs.YtgdiankfnemjjaaGreat
open Go Go.RowKit

/-- What refusal comes to, where the kind is none of 1, 2, 4. -/
def refE (k : Int) (t : Bool) : Int := if k = 3 then (if t = true then 0 else 2) else if k = 5 then 0 else 5

set_option maxRecDepth 100000 in
set_option maxHeartbeats 3200000 in
theorem refusal_easy (ns : List ByteArray) (ms : List Dm) (T B : Nat) (v0 : Value) (fn : List ByteArray) (x2 : Option Addr) (n2 m2 : Nat) (x4 : Option Addr) (n4 m4 : Nat) (P : Nat → Prop) (w : World) (hP : ∀ b, P b → b < w.heap.size) (hn : StrsAt P w (.slice x2 n2 m2) ns) (hf : FnAt P w (.slice x4 n4 m4) ms) (hl1 : ns.length ≤ 1000) (hl2 : ms.length ≤ 1000) (l : List ByteArray) (hl : mfold ns ms = some l)
    (hrow : w.rowIs T 114 2 (rowO v0 (.map (some B)))) (hmap : NMap w B fn) (k : Int) (x y : ByteArray) (hx : x.size ≤ 9223372036854775807) (h1 : k ≠ 1) (h2 : k ≠ 2) (h4 : k ≠ 4) :
    Calls Tryz.prog 91 #[.agg #[.pointer (some ⟨T, 0, none⟩), .pointer (some ⟨T, 0, none⟩), .slice x2 n2 m2, .pointer (some ⟨T, 0, none⟩), .slice x4 n4 m4], .agg #[.int .i64 k, .string x, .string y]] w fun e w' => e = .returned (.int .i64 (refE k (hasB l x))) ∧ Below w.heap.size w w' := by
  obtain ⟨W0, hW0⟩ : ∃ W0, (w.alloc (.cells #[.pointer (some ⟨T, 0, none⟩), .pointer (some ⟨T, 0, none⟩), .slice x2 n2 m2, .pointer (some ⟨T, 0, none⟩), .slice x4 n4 m4] 101)).alloc (.cells #[.int .i64 k, .string x, .string y] 63) = W0 := ⟨_, rfl⟩
  have hb0 : Below w.heap.size w W0 := by rw [← hW0]; exact ((Below.refl _ w).alloc (Nat.le_refl _) _).alloc (by simp) _
  have hbd := hb0.drew
  have HTH := hide (isThere_any ns ms (some ⟨T, 0, none⟩) (some ⟨T, 0, none⟩) x2 n2 m2 (some ⟨T, 0, none⟩) x4 n4 m4 P W0.drew (fun b hb => Nat.lt_of_lt_of_le (hP b hb) hbd.size) (hn.carry (fun b hb => hbd.block b (hP b hb)) (fun _ h => h)) (hf.carry (fun b hb => hbd.block b (hP b hb)) (fun _ h => h)) hl1 hl2 l hl x)
  have t1 := (hrow.of_block (hb0.block T hrow.lt)).cell (i := 1) (by omega)
  simp only [rowO] at t1
  have hmap0 : NMap W0 B fn := by rw [← hW0]; exact World.ownsMap.alloc (World.ownsMap.alloc hmap _) _
  obtain ⟨c, hlk, -, -⟩ := look_all hmap0 x hx
  have hlk1 := hlk 1
  have hlk2 : (Instr.lookup 112 (.map (some B)) (.string x) true).run Tryz.prog W0.drew = .ok (.tuple #[.int .i64 c, .bool (Maps.has _ (nkey x))]) W0.drew := hlk1
  have HRI := hide (fun b c W => refusalIf_any b c W)
  have HBD := hide hbd
  clear hlk hlk1 hmap0 hmap hrow hn hf hl hP hbd
  subst hW0
  go_enter Tryz.func91, Tryz.ntmps91
  go_wp2_with fail
  go_region
  by_cases h3 : k = 3
  · subst h3
    have hr : ∀ t, refE 3 t = if t = true then 0 else 2 := fun t => if_pos rfl
    have HR := hide hr
    clear hr hlk2 t1
    go_wp2_with fail
    refine (unhide HTH).mono ?_
    rintro e w1 ⟨rfl, hb1⟩
    have HB1 := hide ((unhide HBD).trans (hb1.mono (unhide HBD).size))
    clear hb1 HTH HBD
    obtain ⟨t, ht⟩ : ∃ t, hasB l x = t := ⟨_, rfl⟩
    rw [ht]
    have HT := hide ht
    clear ht
    cases t with
    | true =>
      go_wp2_with fail
      refine (unhide HRI _ _ _).mono ?_
      rintro e w2 ⟨rfl, rfl⟩
      go_wp2_with fail
      go_ret
      refine ⟨?_, unhide HB1⟩
      rw [unhide HR, unhide HT]; rfl
    | false =>
      go_wp2_with fail
      refine (unhide HRI _ _ _).mono ?_
      rintro e w2 ⟨rfl, rfl⟩
      go_wp2_with fail
      go_ret
      refine ⟨?_, unhide HB1⟩
      rw [unhide HR, unhide HT]; rfl
  · by_cases h5 : k = 5
    · subst h5
      go_wp2_with fail
      go_ret
      exact ⟨rfl, unhide HBD⟩
    · have HR := hide (show refE k (hasB l x) = 5 by unfold refE; rw [if_neg h3, if_neg h5])
      go_wp2_with fail
      go_ret
      refine ⟨?_, unhide HBD⟩
      rw [unhide HR]; rfl
end Go.Proofs.YtgdiankfnemjjaaGreat

/- The drawn regions of the program's refusal. Conditions: the views and the write lie in their boxes. -/

namespace Go.Proofs.YtgdiankfnemjjaaGreat
open Go Go.RowKit

/-- The views and the write in their boxes, the disk's memory. -/
structure Rg (P : Nat → Prop) (w : World) (d : Dk) (a0 : Option Addr) (p0 T B : Nat) (x2 : Option Addr) (n2 m2 : Nat) (x4 : Option Addr) (n4 m4 : Nat) (k : Int) (x y : ByteArray) (W : World) : Prop where
  b0 : W.rowIs w.heap.size 101 5 (row5 (.pointer (some ⟨T, 0, none⟩)) (.pointer (some ⟨T, 0, none⟩)) (.slice x2 n2 m2) (.pointer (some ⟨T, 0, none⟩)) (.slice x4 n4 m4))
  b1 : W.rowIs (w.heap.size + 1) 63 3 (row3 (.int .i64 k) (.string x) (.string y))
  row : W.rowIs T 114 2 (rowO (.slice a0 d.files.length p0) (.map (some B)))
  map : NMap W B (d.files.map Df.name)
  ns : StrsAt P W (.slice x2 n2 m2) d.names
  fn : FnAt P W (.slice x4 n4 m4) d.moves
  fs : FsAt P W (.slice a0 d.files.length p0) d.files
  lt : ∀ b, P b → b < w.heap.size
  bel : Below w.heap.size w W
theorem Rg.on {P : Nat → Prop} {w : World} {d : Dk} {a0 : Option Addr} {p0 T B : Nat} {x2 : Option Addr} {n2 m2 : Nat} {x4 : Option Addr} {n4 m4 : Nat} {k : Int} {x y : ByteArray} {W W' : World} (h : Rg P w d a0 p0 T B x2 n2 m2 x4 n4 m4 k x y W) (hb : Below W.heap.size W W') : Rg P w d a0 p0 T B x2 n2 m2 x4 n4 m4 k x y W' :=
  have hp : ∀ b, P b → W'.heap[b]? = W.heap[b]? := fun b hp => hb.block b (Nat.lt_of_lt_of_le (h.lt b hp) h.bel.size)
  ⟨h.b0.of_block (hb.block _ h.b0.lt), h.b1.of_block (hb.block _ h.b1.lt), h.row.of_block (hb.block _ h.row.lt), World.ownsMap.kept (row := none) h.map ⟨hb.os, hb.tape, hb.output, hb.size, fun b hb' _ => hb.block b hb'⟩ (by simp), h.ns.carry hp (fun _ h => h), h.fn.carry hp (fun _ h => h), h.fs.carry hp (fun _ h => h), h.lt, h.bel.trans (hb.mono h.bel.size)⟩
theorem Rg.pl {P : Nat → Prop} {w : World} {d : Dk} {a0 : Option Addr} {p0 T B : Nat} {x2 : Option Addr} {n2 m2 : Nat} {x4 : Option Addr} {n4 m4 : Nat} {k : Int} {x y : ByteArray} {W : World} (h : Rg P w d a0 p0 T B x2 n2 m2 x4 n4 m4 k x y W) : ∀ b, P b → b < W.heap.size := fun b hb => Nat.lt_of_lt_of_le (h.lt b hb) h.bel.size
theorem Rg.v0 {P : Nat → Prop} {w : World} {d : Dk} {a0 : Option Addr} {p0 T B : Nat} {x2 : Option Addr} {n2 m2 : Nat} {x4 : Option Addr} {n4 m4 : Nat} {k : Int} {x y : ByteArray} {W : World} (h : Rg P w d a0 p0 T B x2 n2 m2 x4 n4 m4 k x y W) : W.cell? ⟨w.heap.size, 0, none⟩ = some (.pointer (some ⟨T, 0, none⟩)) := h.b0.cell (i := 0) (by omega)
theorem Rg.m1 {P : Nat → Prop} {w : World} {d : Dk} {a0 : Option Addr} {p0 T B : Nat} {x2 : Option Addr} {n2 m2 : Nat} {x4 : Option Addr} {n4 m4 : Nat} {k : Int} {x y : ByteArray} {W : World} (h : Rg P w d a0 p0 T B x2 n2 m2 x4 n4 m4 k x y W) : W.cell? ⟨w.heap.size + 1, 1, none⟩ = some (.string x) := h.b1.cell (i := 1) (by omega)
theorem Rg.m2 {P : Nat → Prop} {w : World} {d : Dk} {a0 : Option Addr} {p0 T B : Nat} {x2 : Option Addr} {n2 m2 : Nat} {x4 : Option Addr} {n4 m4 : Nat} {k : Int} {x y : ByteArray} {W : World} (h : Rg P w d a0 p0 T B x2 n2 m2 x4 n4 m4 k x y W) : W.cell? ⟨w.heap.size + 1, 2, none⟩ = some (.string y) := h.b1.cell (i := 2) (by omega)
theorem Rg.f0 {P : Nat → Prop} {w : World} {d : Dk} {a0 : Option Addr} {p0 T B : Nat} {x2 : Option Addr} {n2 m2 : Nat} {x4 : Option Addr} {n4 m4 : Nat} {k : Int} {x y : ByteArray} {W : World} (h : Rg P w d a0 p0 T B x2 n2 m2 x4 n4 m4 k x y W) : W.cell? ⟨T, 0, none⟩ = some (.slice a0 d.files.length p0) := h.row.cell (i := 0) (by omega)
theorem ldTp (w : World) (ad : Addr) (v : Value) (h : w.cell? ad = some v) : (Instr.loadAt 94 (.pointer (some ad))).run Tryz.prog w = .ok v w := by
  simp [Instr.loadAt, Instr.sureAddr, loadVar, Tryz.isAgg94, h, go_sem]
theorem rowViewO : ∃ d, Tryz.prog.underlying 101 = some d ∧ d.isRow = true := ⟨_, Tryz.underlying101, by rfl⟩
theorem info5V : (Tryz.prog.info? 101).map (·.size) = some 5 := by kernel_rfl
theorem Rg.ld {P : Nat → Prop} {w : World} {d : Dk} {a0 : Option Addr} {p0 T B : Nat} {x2 : Option Addr} {n2 m2 : Nat} {x4 : Option Addr} {n4 m4 : Nat} {k : Int} {x y : ByteArray} {W : World} (h : Rg P w d a0 p0 T B x2 n2 m2 x4 n4 m4 k x y W) : (Instr.loadAt 101 (.pointer (some ⟨w.heap.size, 0, none⟩))).run Tryz.prog W = .ok (.agg #[.pointer (some ⟨T, 0, none⟩), .pointer (some ⟨T, 0, none⟩), .slice x2 n2 m2, .pointer (some ⟨T, 0, none⟩), .slice x4 n4 m4]) W := by
  obtain ⟨dd, hdu, hdr⟩ := rowViewO
  have hr : W.rangeAt w.heap.size 0 [.pointer (some ⟨T, 0, none⟩), .pointer (some ⟨T, 0, none⟩), .slice x2 n2 m2, .pointer (some ⟨T, 0, none⟩), .slice x4 n4 m4] := fun j v hv => by
    match j, hv with
    | 0, hv => simp only [List.getElem?_cons_zero, Option.some.injEq] at hv; subst hv; exact h.b0.cell (i := 0) (by omega)
    | 1, hv => simp only [List.getElem?_cons_succ, List.getElem?_cons_zero, Option.some.injEq] at hv; subst hv; exact h.b0.cell (i := 1) (by omega)
    | 2, hv => simp only [List.getElem?_cons_succ, List.getElem?_cons_zero, Option.some.injEq] at hv; subst hv; exact h.b0.cell (i := 2) (by omega)
    | 3, hv => simp only [List.getElem?_cons_succ, List.getElem?_cons_zero, Option.some.injEq] at hv; subst hv; exact h.b0.cell (i := 3) (by omega)
    | 4, hv => simp only [List.getElem?_cons_succ, List.getElem?_cons_zero, Option.some.injEq] at hv; subst hv; exact h.b0.cell (i := 4) (by omega)
    | _ + 5, hv => simp at hv
  unfold Instr.loadAt
  simp only [Instr.sureAddr, Sem.run_bind, Sem.run_pure, Result.andThen_ok, run_loadVar_mid W w.heap.size 0 101 [.pointer (some ⟨T, 0, none⟩), .pointer (some ⟨T, 0, none⟩), .slice x2 n2 m2, .pointer (some ⟨T, 0, none⟩), .slice x4 n4 m4] dd hr hdu hdr info5V]
/-- Two numbers in a row that has just been made. -/
theorem two_cells (W : World) (c0 c1 : Int) (t : TypeId) : (W.alloc (.cells #[.int .i64 c0, .int .i64 c1] t)).cell? ⟨W.heap.size, 0, none⟩ = some (.int .i64 c0) ∧ (W.alloc (.cells #[.int .i64 c0, .int .i64 c1] t)).cell? ⟨W.heap.size, 1, none⟩ = some (.int .i64 c1) := by
  constructor <;> simp [go_sem]
noncomputable def rf11Ops : Array Oper := fops Tryz.f91 11
theorem rf11_neat : Region.noSelect rf11Ops = true ∧ neat rf11Ops = true := ⟨by kernel_rfl, by kernel_rfl⟩
set_option maxRecDepth 100000 in
set_option maxHeartbeats 1600000 in
theorem rf11 (P : Nat → Prop) (w : World) (d : Dk) (a0 : Option Addr) (p0 T B : Nat) (x2 : Option Addr) (n2 m2 : Nat) (x4 : Option Addr) (n4 m4 : Nat) (k : Int) (x y : ByteArray) (l2 : List ByteArray) (hl2 : mfold d.names d.moves = some l2) (hn1 : d.names.length ≤ 1000) (hn2 : d.moves.length ≤ 1000) (W0 : World) {l : List Value} (Q : Exit → Act → World → Prop) (hQ : ∀ c a d v w, Q (.panic c) (Act.put a d v) w → Q (.panic c) a w) (hS : Rg P w d a0 p0 T B x2 n2 m2 x4 n4 m4 k x y W0.drew) (hl : lookL [(2, .pointer (some ⟨w.heap.size, 0, none⟩)), (3, .pointer (some ⟨w.heap.size + 1, 0, none⟩))] l = (95, [.pointer (some ⟨w.heap.size, 0, none⟩), .pointer (some ⟨w.heap.size + 1, 0, none⟩)]))
    (hend : ∀ v W', Rg P w d a0 p0 T B x2 n2 m2 x4 n4 m4 k x y W' → Q .normal ⟨(frL v 95 [(4, .int .i64 (fr2 (if (!hasB l2 x) = true then 2 else 0) (if decide (128 ≤ n4) = true then 4 else 0)))]).toArray, []⟩ W') : (Code.region 11 rf11Ops true).wp Tryz.prog Q ⟨l.toArray, []⟩ W0 := by
  obtain ⟨v, rfl⟩ := look_fr hl
  have hq : NtQ rf11Ops Q := ⟨rf11_neat, hQ⟩
  refine T_start (S := fun W => Rg P w d a0 p0 T B x2 n2 m2 x4 n4 m4 k x y W) (by kernel_rfl) hS ?_
  clear hl hQ hS
  generalize W0.drew = W
  refine T_a hq (List.range 12) (fun w h => .cons h.ld (.cons (ldStr _ _ _ h.m1) (.cons h.ld Lds.nil))) (by kernel_rfl) ?_
  refine T_one 3 (by kernel_rfl) fun h => O_go (isThere_any d.names d.moves (some ⟨T, 0, none⟩) (some ⟨T, 0, none⟩) x2 n2 m2 (some ⟨T, 0, none⟩) x4 n4 m4 P W h.pl h.ns h.fn hn1 hn2 l2 hl2 x) (by kernel_rfl) ?_
  rintro _ W ⟨rfl, hb⟩
  refine ⟨_, rfl, h.on hb, ?_⟩
  clear h hb
  refine T_z hq (List.range 12) (by kernel_rfl) ?_
  refine T_one 5 (by kernel_rfl) fun h => O_go (refusalIf_any (!hasB l2 x) 2 W) (by kernel_rfl) ?_
  rintro _ W ⟨rfl, hb⟩
  refine ⟨_, rfl, hb ▸ h, ?_⟩
  clear h hb
  refine T_one 7 (by kernel_rfl) fun h => O_go (movesFull_any (some ⟨T, 0, none⟩) (some ⟨T, 0, none⟩) x2 (some ⟨T, 0, none⟩) x4 n2 m2 n4 m4 W) (by kernel_rfl) ?_
  rintro _ W ⟨rfl, hb⟩
  refine ⟨_, rfl, h.on hb, ?_⟩
  clear h hb
  refine T_one 8 (by kernel_rfl) fun h => O_go (refusalIf_any (decide (128 ≤ n4)) 4 W) (by kernel_rfl) ?_
  rintro _ W ⟨rfl, hb⟩
  refine ⟨_, rfl, hb ▸ h, ?_⟩
  clear h hb
  refine T_one 9 (by kernel_rfl) fun h => O_val (w' := W.alloc (.cells #[.int .i64 (if (!hasB l2 x) = true then 2 else 0), .int .i64 (if decide (128 ≤ n4) = true then 4 else 0)] 3)) (some 91) (.slice (some ⟨W.heap.size, 0, none⟩) 2 2) (by kernel_rfl) (by kernel_rfl) (h.on ((Below.refl _ W).alloc (Nat.le_refl _) _)) ?_
  refine T_one 10 (by kernel_rfl) fun h => O_go (firstRefusal_two W.heap.size (if (!hasB l2 x) = true then 2 else 0) (if decide (128 ≤ n4) = true then 4 else 0) _ (two_cells W _ _ _).1 (two_cells W _ _ _).2) (by kernel_rfl) ?_
  rintro _ W1 ⟨rfl, hb⟩
  refine ⟨_, rfl, hb ▸ h, ?_⟩
  exact T_z hq (List.range 12) (by kernel_rfl) (T_end 95 [(4, .int .i64 (fr2 (if (!hasB l2 x) = true then 2 else 0) (if decide (128 ≤ n4) = true then 4 else 0)))] (by kernel_rfl) (by kernel_rfl) fun hS v => hend v _ hS)
noncomputable def rf4tOps : Array Oper := fops Tryz.f91 4
theorem rf4t_neat : Region.noSelect rf4tOps = true ∧ neat rf4tOps = true := ⟨by kernel_rfl, by kernel_rfl⟩
set_option maxRecDepth 100000 in
set_option maxHeartbeats 1600000 in
theorem rf4t (P : Nat → Prop) (w : World) (d : Dk) (a0 : Option Addr) (p0 T B : Nat) (x2 : Option Addr) (n2 m2 : Nat) (x4 : Option Addr) (n4 m4 : Nat) (k : Int) (x y : ByteArray) (W0 : World) {l : List Value} (Q : Exit → Act → World → Prop) (hQ : ∀ c a d v w, Q (.panic c) (Act.put a d v) w → Q (.panic c) a w) (hS : Rg P w d a0 p0 T B x2 n2 m2 x4 n4 m4 k x y W0.drew) (hl : lookL [(2, .pointer (some ⟨w.heap.size, 0, none⟩)), (3, .pointer (some ⟨w.heap.size + 1, 0, none⟩)), (6, .bool true)] l = (95, [.pointer (some ⟨w.heap.size, 0, none⟩), .pointer (some ⟨w.heap.size + 1, 0, none⟩), .bool true]))
    (hend : ∀ v W', Rg P w d a0 p0 T B x2 n2 m2 x4 n4 m4 k x y W' → Q .normal ⟨(frL v 95 [(4, .int .i64 (fr2 (if true = true then 3 else 0) (if (decide (64 ≤ d.files.length) || decide (128 ≤ n4)) = true then 4 else 0)))]).toArray, []⟩ W') : (Code.region 4 rf4tOps true).wp Tryz.prog Q ⟨l.toArray, []⟩ W0 := by
  obtain ⟨v, rfl⟩ := look_fr hl
  have hq : NtQ rf4tOps Q := ⟨rf4t_neat, hQ⟩
  refine T_start (S := fun W => Rg P w d a0 p0 T B x2 n2 m2 x4 n4 m4 k x y W) (by kernel_rfl) hS ?_
  clear hl hQ hS
  generalize W0.drew = W
  refine T_a hq [0, 1, 2, 3, 4, 5, 6, 7, 8, 9, 10, 11, 12, 13] (fun w h => .cons (ldTp _ _ _ h.v0) (.cons (ldFs _ _ _ h.f0) Lds.nil)) (by kernel_rfl) ?_
  by_cases h64 : 64 ≤ d.files.length
  case pos =>
    rw [show (decide (64 ≤ d.files.length) || decide (128 ≤ n4)) = true from by simp [h64]] at hend
    refine T_val (i := 14) hq (some 37) (.bool (decide ((64 : Int) ≤ (d.files.length : Int)))) (.bool true) (congrArg Value.bool (decide_eq_true (by omega))) (by kernel_rfl) (by kernel_rfl) ?_
    refine T_one 7 (by kernel_rfl) fun h => O_go (refusalIf_any true 3 W) (by kernel_rfl) ?_
    rintro _ W ⟨rfl, hb⟩
    refine ⟨_, rfl, hb ▸ h, ?_⟩
    clear h hb
    refine T_z hq (List.range 23) (by kernel_rfl) ?_
    refine T_one 19 (by kernel_rfl) fun h => O_go (refusalIf_any true 4 W) (by kernel_rfl) ?_
    rintro _ W ⟨rfl, hb⟩
    refine ⟨_, rfl, hb ▸ h, ?_⟩
    clear h hb
    refine T_one 20 (by kernel_rfl) fun h => O_val (w' := W.alloc (.cells #[.int .i64 (if true = true then 3 else 0), .int .i64 (if true = true then 4 else 0)] 3)) (some 43) (.slice (some ⟨W.heap.size, 0, none⟩) 2 2) (by kernel_rfl) (by kernel_rfl) (h.on ((Below.refl _ W).alloc (Nat.le_refl _) _)) ?_
    refine T_one 21 (by kernel_rfl) fun h => O_go (firstRefusal_two W.heap.size (if true = true then 3 else 0) (if true = true then 4 else 0) _ (two_cells W _ _ _).1 (two_cells W _ _ _).2) (by kernel_rfl) ?_
    rintro _ W1 ⟨rfl, hb⟩
    refine ⟨_, rfl, hb ▸ h, ?_⟩
    exact T_z hq (List.range 23) (by kernel_rfl) (T_end 95 [(4, .int .i64 (fr2 (if true = true then 3 else 0) (if true = true then 4 else 0)))] (by kernel_rfl) (by kernel_rfl) fun hS v => hend v _ hS)
  case neg =>
    rw [show (decide (64 ≤ d.files.length) || decide (128 ≤ n4)) = decide (128 ≤ n4) from by simp [h64]] at hend
    refine T_val (i := 14) hq (some 37) (.bool (decide ((64 : Int) ≤ (d.files.length : Int)))) (.bool false) (congrArg Value.bool (decide_eq_false (by omega))) (by kernel_rfl) (by kernel_rfl) ?_
    refine T_one 7 (by kernel_rfl) fun h => O_go (refusalIf_any true 3 W) (by kernel_rfl) ?_
    rintro _ W ⟨rfl, hb⟩
    refine ⟨_, rfl, hb ▸ h, ?_⟩
    clear h hb
    refine T_a hq (List.range 23) (fun w h => .cons (h.ld) Lds.nil) (by kernel_rfl) ?_
    refine T_one 17 (by kernel_rfl) fun h => O_go (movesFull_any (some ⟨T, 0, none⟩) (some ⟨T, 0, none⟩) x2 (some ⟨T, 0, none⟩) x4 n2 m2 n4 m4 W) (by kernel_rfl) ?_
    rintro _ W ⟨rfl, hb⟩
    refine ⟨_, rfl, h.on hb, ?_⟩
    clear h hb
    refine T_z hq (List.range 23) (by kernel_rfl) ?_
    refine T_one 19 (by kernel_rfl) fun h => O_go (refusalIf_any (decide (128 ≤ n4)) 4 W) (by kernel_rfl) ?_
    rintro _ W ⟨rfl, hb⟩
    refine ⟨_, rfl, hb ▸ h, ?_⟩
    clear h hb
    refine T_one 20 (by kernel_rfl) fun h => O_val (w' := W.alloc (.cells #[.int .i64 (if true = true then 3 else 0), .int .i64 (if decide (128 ≤ n4) = true then 4 else 0)] 3)) (some 43) (.slice (some ⟨W.heap.size, 0, none⟩) 2 2) (by kernel_rfl) (by kernel_rfl) (h.on ((Below.refl _ W).alloc (Nat.le_refl _) _)) ?_
    refine T_one 21 (by kernel_rfl) fun h => O_go (firstRefusal_two W.heap.size (if true = true then 3 else 0) (if decide (128 ≤ n4) = true then 4 else 0) _ (two_cells W _ _ _).1 (two_cells W _ _ _).2) (by kernel_rfl) ?_
    rintro _ W1 ⟨rfl, hb⟩
    refine ⟨_, rfl, hb ▸ h, ?_⟩
    exact T_z hq (List.range 23) (by kernel_rfl) (T_end 95 [(4, .int .i64 (fr2 (if true = true then 3 else 0) (if decide (128 ≤ n4) = true then 4 else 0)))] (by kernel_rfl) (by kernel_rfl) fun hS v => hend v _ hS)
noncomputable def rf4fOps : Array Oper := fops Tryz.f91 4
theorem rf4f_neat : Region.noSelect rf4fOps = true ∧ neat rf4fOps = true := ⟨by kernel_rfl, by kernel_rfl⟩
set_option maxRecDepth 100000 in
set_option maxHeartbeats 1600000 in
theorem rf4f (P : Nat → Prop) (w : World) (d : Dk) (a0 : Option Addr) (p0 T B : Nat) (x2 : Option Addr) (n2 m2 : Nat) (x4 : Option Addr) (n4 m4 : Nat) (k : Int) (x y : ByteArray) (hx : x.size ≤ 1048576) (W0 : World) {l : List Value} (Q : Exit → Act → World → Prop) (hQ : ∀ c a d v w, Q (.panic c) (Act.put a d v) w → Q (.panic c) a w) (hS : Rg P w d a0 p0 T B x2 n2 m2 x4 n4 m4 k x y W0.drew) (hl : lookL [(2, .pointer (some ⟨w.heap.size, 0, none⟩)), (3, .pointer (some ⟨w.heap.size + 1, 0, none⟩)), (6, .bool false)] l = (95, [.pointer (some ⟨w.heap.size, 0, none⟩), .pointer (some ⟨w.heap.size + 1, 0, none⟩), .bool false]))
    (hend : ∀ v W', Rg P w d a0 p0 T B x2 n2 m2 x4 n4 m4 k x y W' → Q .normal ⟨(frL v 95 [(4, .int .i64 (fr2 (if (!nameOkB x) = true then 3 else 0) (if (decide (64 ≤ d.files.length) || decide (128 ≤ n4)) = true then 4 else 0)))]).toArray, []⟩ W') : (Code.region 4 rf4fOps true).wp Tryz.prog Q ⟨l.toArray, []⟩ W0 := by
  obtain ⟨v, rfl⟩ := look_fr hl
  have hq : NtQ rf4fOps Q := ⟨rf4f_neat, hQ⟩
  refine T_start (S := fun W => Rg P w d a0 p0 T B x2 n2 m2 x4 n4 m4 k x y W) (by kernel_rfl) hS ?_
  clear hl hQ hS
  generalize W0.drew = W
  refine T_a hq [0, 1, 2, 3, 4, 5, 6, 7, 8, 9, 10, 11, 12, 13] (fun w h => .cons (ldStr _ _ _ h.m1) (.cons (ldTp _ _ _ h.v0) (.cons (ldFs _ _ _ h.f0) Lds.nil))) (by kernel_rfl) ?_
  by_cases h64 : 64 ≤ d.files.length
  case pos =>
    rw [show (decide (64 ≤ d.files.length) || decide (128 ≤ n4)) = true from by simp [h64]] at hend
    refine T_val (i := 14) hq (some 37) (.bool (decide ((64 : Int) ≤ (d.files.length : Int)))) (.bool true) (congrArg Value.bool (decide_eq_true (by omega))) (by kernel_rfl) (by kernel_rfl) ?_
    refine T_one 4 (by kernel_rfl) fun h => O_go (nameOk_any x W (by omega)) (by kernel_rfl) ?_
    rintro _ W ⟨rfl, hb⟩
    refine ⟨_, rfl, hb ▸ h, ?_⟩
    clear h hb
    refine T_z hq [0, 1, 2, 3, 4, 5, 6, 7, 8, 9, 10, 11, 12, 13] (by kernel_rfl) ?_
    refine T_one 7 (by kernel_rfl) fun h => O_go (refusalIf_any (!nameOkB x) 3 W) (by kernel_rfl) ?_
    rintro _ W ⟨rfl, hb⟩
    refine ⟨_, rfl, hb ▸ h, ?_⟩
    clear h hb
    refine T_z hq (List.range 23) (by kernel_rfl) ?_
    refine T_one 19 (by kernel_rfl) fun h => O_go (refusalIf_any true 4 W) (by kernel_rfl) ?_
    rintro _ W ⟨rfl, hb⟩
    refine ⟨_, rfl, hb ▸ h, ?_⟩
    clear h hb
    refine T_one 20 (by kernel_rfl) fun h => O_val (w' := W.alloc (.cells #[.int .i64 (if (!nameOkB x) = true then 3 else 0), .int .i64 (if true = true then 4 else 0)] 3)) (some 43) (.slice (some ⟨W.heap.size, 0, none⟩) 2 2) (by kernel_rfl) (by kernel_rfl) (h.on ((Below.refl _ W).alloc (Nat.le_refl _) _)) ?_
    refine T_one 21 (by kernel_rfl) fun h => O_go (firstRefusal_two W.heap.size (if (!nameOkB x) = true then 3 else 0) (if true = true then 4 else 0) _ (two_cells W _ _ _).1 (two_cells W _ _ _).2) (by kernel_rfl) ?_
    rintro _ W1 ⟨rfl, hb⟩
    refine ⟨_, rfl, hb ▸ h, ?_⟩
    exact T_z hq (List.range 23) (by kernel_rfl) (T_end 95 [(4, .int .i64 (fr2 (if (!nameOkB x) = true then 3 else 0) (if true = true then 4 else 0)))] (by kernel_rfl) (by kernel_rfl) fun hS v => hend v _ hS)
  case neg =>
    rw [show (decide (64 ≤ d.files.length) || decide (128 ≤ n4)) = decide (128 ≤ n4) from by simp [h64]] at hend
    refine T_val (i := 14) hq (some 37) (.bool (decide ((64 : Int) ≤ (d.files.length : Int)))) (.bool false) (congrArg Value.bool (decide_eq_false (by omega))) (by kernel_rfl) (by kernel_rfl) ?_
    refine T_one 4 (by kernel_rfl) fun h => O_go (nameOk_any x W (by omega)) (by kernel_rfl) ?_
    rintro _ W ⟨rfl, hb⟩
    refine ⟨_, rfl, hb ▸ h, ?_⟩
    clear h hb
    refine T_z hq [0, 1, 2, 3, 4, 5, 6, 7, 8, 9, 10, 11, 12, 13] (by kernel_rfl) ?_
    refine T_one 7 (by kernel_rfl) fun h => O_go (refusalIf_any (!nameOkB x) 3 W) (by kernel_rfl) ?_
    rintro _ W ⟨rfl, hb⟩
    refine ⟨_, rfl, hb ▸ h, ?_⟩
    clear h hb
    refine T_a hq (List.range 23) (fun w h => .cons (h.ld) Lds.nil) (by kernel_rfl) ?_
    refine T_one 17 (by kernel_rfl) fun h => O_go (movesFull_any (some ⟨T, 0, none⟩) (some ⟨T, 0, none⟩) x2 (some ⟨T, 0, none⟩) x4 n2 m2 n4 m4 W) (by kernel_rfl) ?_
    rintro _ W ⟨rfl, hb⟩
    refine ⟨_, rfl, h.on hb, ?_⟩
    clear h hb
    refine T_z hq (List.range 23) (by kernel_rfl) ?_
    refine T_one 19 (by kernel_rfl) fun h => O_go (refusalIf_any (decide (128 ≤ n4)) 4 W) (by kernel_rfl) ?_
    rintro _ W ⟨rfl, hb⟩
    refine ⟨_, rfl, hb ▸ h, ?_⟩
    clear h hb
    refine T_one 20 (by kernel_rfl) fun h => O_val (w' := W.alloc (.cells #[.int .i64 (if (!nameOkB x) = true then 3 else 0), .int .i64 (if decide (128 ≤ n4) = true then 4 else 0)] 3)) (some 43) (.slice (some ⟨W.heap.size, 0, none⟩) 2 2) (by kernel_rfl) (by kernel_rfl) (h.on ((Below.refl _ W).alloc (Nat.le_refl _) _)) ?_
    refine T_one 21 (by kernel_rfl) fun h => O_go (firstRefusal_two W.heap.size (if (!nameOkB x) = true then 3 else 0) (if decide (128 ≤ n4) = true then 4 else 0) _ (two_cells W _ _ _).1 (two_cells W _ _ _).2) (by kernel_rfl) ?_
    rintro _ W1 ⟨rfl, hb⟩
    refine ⟨_, rfl, hb ▸ h, ?_⟩
    exact T_z hq (List.range 23) (by kernel_rfl) (T_end 95 [(4, .int .i64 (fr2 (if (!nameOkB x) = true then 3 else 0) (if decide (128 ≤ n4) = true then 4 else 0)))] (by kernel_rfl) (by kernel_rfl) fun hS v => hend v _ hS)
noncomputable def rf6tOps : Array Oper := fops Tryz.f91 6
theorem rf6t_neat : Region.noSelect rf6tOps = true ∧ neat rf6tOps = true := ⟨by kernel_rfl, by kernel_rfl⟩
set_option maxRecDepth 100000 in
set_option maxHeartbeats 1600000 in
theorem rf6t (P : Nat → Prop) (w : World) (d : Dk) (a0 : Option Addr) (p0 T B : Nat) (x2 : Option Addr) (n2 m2 : Nat) (x4 : Option Addr) (n4 m4 : Nat) (k : Int) (x y : ByteArray) (hnd : (d.files.map Df.name).Nodup) (i : Nat) (hi : i < d.files.length) (hxi : d.files[i].name = x) (W0 : World) {l : List Value} (Q : Exit → Act → World → Prop) (hQ : ∀ c a d v w, Q (.panic c) (Act.put a d v) w → Q (.panic c) a w) (hS : Rg P w d a0 p0 T B x2 n2 m2 x4 n4 m4 k x y W0.drew) (hl : lookL [(2, .pointer (some ⟨w.heap.size, 0, none⟩)), (3, .pointer (some ⟨w.heap.size + 1, 0, none⟩)), (6, .bool true)] l = (95, [.pointer (some ⟨w.heap.size, 0, none⟩), .pointer (some ⟨w.heap.size + 1, 0, none⟩), .bool true]))
    (hend : ∀ v W', Rg P w d a0 p0 T B x2 n2 m2 x4 n4 m4 k x y W' → Q .normal ⟨(frL v 95 [(2, .pointer (some ⟨w.heap.size, 0, none⟩)), (3, .pointer (some ⟨w.heap.size + 1, 0, none⟩)), (7, .bool (decide (IntKind.i64.wrap (20000 - (d.files[i].data.size : Int)) < (y.size : Int))))]).toArray, []⟩ W') : (Code.region 6 rf6tOps true).wp Tryz.prog Q ⟨l.toArray, []⟩ W0 := by
  obtain ⟨v, rfl⟩ := look_fr hl
  have hq : NtQ rf6tOps Q := ⟨rf6t_neat, hQ⟩
  refine T_start (S := fun W => Rg P w d a0 p0 T B x2 n2 m2 x4 n4 m4 k x y W) (by kernel_rfl) hS ?_
  clear hl hQ hS
  generalize W0.drew = W
  refine T_a hq (List.range 16) (fun w h => .cons (ldStr _ _ _ h.m2) (.cons (ldTp _ _ _ h.v0) (.cons (ldStr _ _ _ h.m1) Lds.nil))) (by kernel_rfl) ?_
  refine T_one 9 (by kernel_rfl) fun h => O_go (hxi ▸ fileOf_any d.files a0 d.files.length p0 T B P W h.pl h.fs h.row h.map hnd i hi) (by kernel_rfl) ?_
  rintro _ W ⟨rfl, hb⟩
  refine ⟨_, rfl, h.on hb, ?_⟩
  clear h hb
  refine T_z hq (List.range 16) (by kernel_rfl) ?_
  exact T_end 95 [(2, .pointer (some ⟨w.heap.size, 0, none⟩)), (3, .pointer (some ⟨w.heap.size + 1, 0, none⟩)), (7, .bool (decide (IntKind.i64.wrap (20000 - (d.files[i].data.size : Int)) < (y.size : Int))))] (by kernel_rfl) (by kernel_rfl) fun hS v => hend v _ hS
noncomputable def rf6fOps : Array Oper := fops Tryz.f91 6
theorem rf6f_neat : Region.noSelect rf6fOps = true ∧ neat rf6fOps = true := ⟨by kernel_rfl, by kernel_rfl⟩
set_option maxRecDepth 100000 in
set_option maxHeartbeats 1600000 in
theorem rf6f (P : Nat → Prop) (w : World) (d : Dk) (a0 : Option Addr) (p0 T B : Nat) (x2 : Option Addr) (n2 m2 : Nat) (x4 : Option Addr) (n4 m4 : Nat) (k : Int) (x y : ByteArray) (W0 : World) {l : List Value} (Q : Exit → Act → World → Prop) (hQ : ∀ c a d v w, Q (.panic c) (Act.put a d v) w → Q (.panic c) a w) (hS : Rg P w d a0 p0 T B x2 n2 m2 x4 n4 m4 k x y W0.drew) (hl : lookL [(2, .pointer (some ⟨w.heap.size, 0, none⟩)), (3, .pointer (some ⟨w.heap.size + 1, 0, none⟩)), (6, .bool false)] l = (95, [.pointer (some ⟨w.heap.size, 0, none⟩), .pointer (some ⟨w.heap.size + 1, 0, none⟩), .bool false]))
    (hend : ∀ v W', Rg P w d a0 p0 T B x2 n2 m2 x4 n4 m4 k x y W' → Q .normal ⟨(frL v 95 [(2, .pointer (some ⟨w.heap.size, 0, none⟩)), (3, .pointer (some ⟨w.heap.size + 1, 0, none⟩)), (7, .bool false)]).toArray, []⟩ W') : (Code.region 6 rf6fOps true).wp Tryz.prog Q ⟨l.toArray, []⟩ W0 := by
  obtain ⟨v, rfl⟩ := look_fr hl
  have hq : NtQ rf6fOps Q := ⟨rf6f_neat, hQ⟩
  refine T_start (S := fun W => Rg P w d a0 p0 T B x2 n2 m2 x4 n4 m4 k x y W) (by kernel_rfl) hS ?_
  clear hl hQ hS
  generalize W0.drew = W
  refine T_z hq (List.range 16) (by kernel_rfl) ?_
  exact T_end 95 [(2, .pointer (some ⟨w.heap.size, 0, none⟩)), (3, .pointer (some ⟨w.heap.size + 1, 0, none⟩)), (7, .bool false)] (by kernel_rfl) (by kernel_rfl) fun hS v => hend v _ hS
end Go.Proofs.YtgdiankfnemjjaaGreat
