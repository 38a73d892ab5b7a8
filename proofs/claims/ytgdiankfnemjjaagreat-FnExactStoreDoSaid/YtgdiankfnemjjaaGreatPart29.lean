/- The walk of the program's refusal. Conditions: the views and the write lie in their boxes, the disk is ok. -/
import Derived.Test.YtgdiankfnemjjaaGreatPart28
import Derived.Deep.RegionHeld3
namespace Go.Proofs.YtgdiankfnemjjaaGreat
open Go Go.RowKit

theorem lkRun {o : Oper} {a : Act} {X I : Operand} {B : Nat} {ns : List ByteArray} {x : ByteArray} {c : Int} {W : World} (ho : o.op = .lookup 112 X I true) (hX : a.eval X = .map (some B)) (hI : a.eval I = .string x) (hm : NMap W B ns) (hx : x.size ≤ 9223372036854775807) (hc : (nmap ns ns.length).atKey (nkey x) (.lit (.int .i64 0)) = .lit (.int .i64 c)) : (execOp a.eval o).run Tryz.prog W = .ok (.value (.tuple #[.int .i64 c, .bool (Maps.has (nmap ns ns.length) (nkey x))])) W := by
  obtain ⟨c', h1, h2, -⟩ := look_all hm x hx
  rw [hc] at h2
  have e : c' = c := by simpa using h2.symm
  subst e
  have h3 : (Instr.lookup 112 (.map (some B)) (.string x) true).run Tryz.prog W = .ok (.tuple #[.int .i64 c', .bool (Maps.has (nmap ns ns.length) (nkey x))]) W := h1 0
  unfold execOp
  simp only [ho, hX, hI, Sem.run_bind, Sem.run_pure, Result.andThen_ok, h3]
theorem Rg.t1 {P : Nat → Prop} {w : World} {d : Dk} {a0 : Option Addr} {p0 T B : Nat} {x2 : Option Addr} {n2 m2 : Nat} {x4 : Option Addr} {n4 m4 : Nat} {k : Int} {x y : ByteArray} {W : World} (h : Rg P w d a0 p0 T B x2 n2 m2 x4 n4 m4 k x y W) : W.cell? ⟨T, 1, none⟩ = some (.map (some B)) := h.row.cell (i := 1) (by omega)
theorem ldMp (w : World) (ad : Addr) (v : Value) (h : w.cell? ad = some v) : (Instr.loadAt 112 (.pointer (some ad))).run Tryz.prog w = .ok v w := by
  simp [Instr.loadAt, Instr.sureAddr, loadVar, Tryz.isAgg112, h, go_sem]
theorem has_file {d : Dk} {x : ByteArray} : Maps.has (nmap (d.files.map Df.name) (d.files.map Df.name).length) (nkey x) = hasB (d.files.map Df.name) x := by
  have h1 := has_nmap (d.files.map Df.name) x _ (Nat.le_refl _)
  rw [List.take_length] at h1
  have h2 : hasB (d.files.map Df.name) x = true ↔ x ∈ (d.files.map Df.name) := hasB_iff
  cases hb : hasB (d.files.map Df.name) x with
  | true => exact h1.2 (h2.1 hb)
  | false => cases hc : Maps.has (nmap (d.files.map Df.name) (d.files.map Df.name).length) (nkey x) with
    | false => rfl
    | true => exact absurd (h2.2 (h1.1 hc)) (by rw [hb]; decide)
noncomputable def rf1Ops : Array Oper := fops Tryz.f91 1
theorem rf1_neat : Region.noSelect rf1Ops = true ∧ neat rf1Ops = true := ⟨by kernel_rfl, by kernel_rfl⟩
set_option maxRecDepth 100000 in
set_option maxHeartbeats 1600000 in
theorem rf1 (P : Nat → Prop) (w : World) (d : Dk) (a0 : Option Addr) (p0 T B : Nat) (x2 : Option Addr) (n2 m2 : Nat) (x4 : Option Addr) (n4 m4 : Nat) (k : Int) (x y : ByteArray) (hx : x.size ≤ 9223372036854775807) (c : Int) (hc : (nmap (d.files.map Df.name) (d.files.map Df.name).length).atKey (nkey x) (.lit (.int .i64 0)) = .lit (.int .i64 c)) (W0 : World) {l : List Value} (Q : Exit → Act → World → Prop) (hQ : ∀ c a d v w, Q (.panic c) (Act.put a d v) w → Q (.panic c) a w) (hS : Rg P w d a0 p0 T B x2 n2 m2 x4 n4 m4 k x y W0.drew) (hl : lookL [(2, .pointer (some ⟨w.heap.size, 0, none⟩)), (3, .pointer (some ⟨w.heap.size + 1, 0, none⟩))] l = (95, [.pointer (some ⟨w.heap.size, 0, none⟩), .pointer (some ⟨w.heap.size + 1, 0, none⟩)]))
    (hend : ∀ v W', Rg P w d a0 p0 T B x2 n2 m2 x4 n4 m4 k x y W' → Q .normal ⟨(frL v 95 [(2, .pointer (some ⟨w.heap.size, 0, none⟩)), (3, .pointer (some ⟨w.heap.size + 1, 0, none⟩)), (6, .bool (hasB (d.files.map Df.name) x))]).toArray, []⟩ W') : (Code.region 1 rf1Ops true).wp Tryz.prog Q ⟨l.toArray, []⟩ W0 := by
  obtain ⟨v, rfl⟩ := look_fr hl
  have hq : NtQ rf1Ops Q := ⟨rf1_neat, hQ⟩
  refine T_start (S := fun W => Rg P w d a0 p0 T B x2 n2 m2 x4 n4 m4 k x y W) (by kernel_rfl) hS ?_
  clear hl hQ hS
  generalize W0.drew = W
  rw [← has_file] at hend
  refine T_a hq (List.range 7) (fun w h => .cons (ldTp _ _ _ h.v0) (.cons (ldMp _ _ _ h.t1) (.cons (ldStr _ _ _ h.m1) Lds.nil))) (by kernel_rfl) ?_
  refine T_yld hq 7 (some 16) (.tuple #[.int .i64 c, .bool (Maps.has (nmap (d.files.map Df.name) (d.files.map Df.name).length) (nkey x))]) (by kernel_rfl) (by kernel_rfl) (fun w h => lkRun (B := B) (X := .tmp 13) (I := .tmp 15) (by kernel_rfl) (by kernel_rfl) (by kernel_rfl) h.map hx hc) ?_
  exact T_z hq (List.range 13) (by kernel_rfl) (T_end 95 [(2, .pointer (some ⟨w.heap.size, 0, none⟩)), (3, .pointer (some ⟨w.heap.size + 1, 0, none⟩)), (6, .bool (Maps.has (nmap (d.files.map Df.name) (d.files.map Df.name).length) (nkey x)))] (by kernel_rfl) (by kernel_rfl) fun hS v => hend v _ hS)
/-- The views of a disk, as viewsOf gives them. -/
structure Vs (P : Nat → Prop) (d : Dk) (a0 : Option Addr) (p0 T B : Nat) (x2 : Option Addr) (n2 m2 : Nat) (x4 : Option Addr) (n4 m4 : Nat) (W : World) : Prop where
  row : W.rowIs T 114 2 (rowO (.slice a0 d.files.length p0) (.map (some B)))
  map : NMap W B (d.files.map Df.name)
  ns : StrsAt P W (.slice x2 n2 m2) d.names
  fn : FnAt P W (.slice x4 n4 m4) d.moves
  fs : FsAt P W (.slice a0 d.files.length p0) d.files
  lt : ∀ b, P b → b < W.heap.size
theorem Vs.on {P : Nat → Prop} {d : Dk} {a0 : Option Addr} {p0 T B : Nat} {x2 : Option Addr} {n2 m2 : Nat} {x4 : Option Addr} {n4 m4 : Nat} {W W' : World} (h : Vs P d a0 p0 T B x2 n2 m2 x4 n4 m4 W) (hb : Below W.heap.size W W') : Vs P d a0 p0 T B x2 n2 m2 x4 n4 m4 W' :=
  have hp : ∀ b, P b → W'.heap[b]? = W.heap[b]? := fun b hp => hb.block b (h.lt b hp)
  ⟨h.row.of_block (hb.block _ h.row.lt), World.ownsMap.kept (row := none) h.map ⟨hb.os, hb.tape, hb.output, hb.size, fun b hb' _ => hb.block b hb'⟩ (by simp), h.ns.carry hp (fun _ h => h), h.fn.carry hp (fun _ h => h), h.fs.carry hp (fun _ h => h), fun b hp => Nat.lt_of_lt_of_le (h.lt b hp) hb.size⟩
theorem Rg.start {P : Nat → Prop} {w : World} {d : Dk} {a0 : Option Addr} {p0 T B : Nat} {x2 : Option Addr} {n2 m2 : Nat} {x4 : Option Addr} {n4 m4 : Nat} {k : Int} {x y : ByteArray} (h : Vs P d a0 p0 T B x2 n2 m2 x4 n4 m4 w) : Rg P w d a0 p0 T B x2 n2 m2 x4 n4 m4 k x y ((w.alloc (.cells #[.pointer (some ⟨T, 0, none⟩), .pointer (some ⟨T, 0, none⟩), .slice x2 n2 m2, .pointer (some ⟨T, 0, none⟩), .slice x4 n4 m4] 101)).alloc (.cells #[.int .i64 k, .string x, .string y] 63)) := by
  have hb : Below w.heap.size w ((w.alloc (.cells #[.pointer (some ⟨T, 0, none⟩), .pointer (some ⟨T, 0, none⟩), .slice x2 n2 m2, .pointer (some ⟨T, 0, none⟩), .slice x4 n4 m4] 101)).alloc (.cells #[.int .i64 k, .string x, .string y] 63)) := ((Below.refl _ _).alloc (Nat.le_refl _) _).alloc (by simp) _
  have h2 := h.on hb
  refine ⟨?_, ?_, h2.row, h2.map, h2.ns, h2.fn, h2.fs, h.lt, hb⟩
  · refine World.rowIs.alloc ?_ _
    exact World.rowIs_alloc w #[.pointer (some ⟨T, 0, none⟩), .pointer (some ⟨T, 0, none⟩), .slice x2 n2 m2, .pointer (some ⟨T, 0, none⟩), .slice x4 n4 m4] 101 _ (fun i hi => by
      have hi' : i < 5 := by simpa using hi
      rcases (show i = 0 ∨ i = 1 ∨ i = 2 ∨ i = 3 ∨ i = 4 by omega) with rfl | rfl | rfl | rfl | rfl <;> rfl)
  · have := row3_alloc (w.alloc (.cells #[.pointer (some ⟨T, 0, none⟩), .pointer (some ⟨T, 0, none⟩), .slice x2 n2 m2, .pointer (some ⟨T, 0, none⟩), .slice x4 n4 m4] 101)) (.int .i64 k) (.string x) (.string y) 63
    rw [World.size_alloc] at this; exact this
set_option maxRecDepth 100000 in
set_option maxHeartbeats 3200000 in
theorem refusal_gone (P : Nat → Prop) (w : World) (d : Dk) (a0 : Option Addr) (p0 T B : Nat) (x2 : Option Addr) (n2 m2 : Nat) (x4 : Option Addr) (n4 m4 : Nat) (x y : ByteArray) (h : Vs P d a0 p0 T B x2 n2 m2 x4 n4 m4 w) (hx : x.size ≤ 1048576) (l2 : List ByteArray) (hl2 : mfold d.names d.moves = some l2) (hn1 : d.names.length ≤ 1000) (hn2 : d.moves.length ≤ 1000) : Calls Tryz.prog 91 #[.agg #[.pointer (some ⟨T, 0, none⟩), .pointer (some ⟨T, 0, none⟩), .slice x2 n2 m2, .pointer (some ⟨T, 0, none⟩), .slice x4 n4 m4], .agg #[.int .i64 4, .string x, .string y]] w fun e w' => e = .returned (.int .i64 (fr2 (if (!hasB l2 x) = true then 2 else 0) (if decide (128 ≤ n4) = true then 4 else 0))) ∧ Below w.heap.size w w' := by
  obtain ⟨c, hlk, hc, -⟩ := look_all h.map x (by omega)
  have HC := hide hc
  have HG := hide (Rg.start (k := 4) (x := x) (y := y) h)
  clear hlk hc h
  go_enter Tryz.func91, Tryz.ntmps91
  go_upto_region 1 with fail
  generalize (w.alloc _).alloc _ = W0 at HG ⊢
  refine wp_swap (c' := Code.region 1 rf1Ops true) (by kernel_rfl) ?_
  refine wp_region_noPanic ?_
  refine rf1 P w d a0 p0 T B x2 n2 m2 x4 n4 m4 4 x y (by omega) c (unhide HC) _ _ (fun _ _ _ _ _ h => h) ((unhide HG).on (drewB _)) (by kernel_rfl) ?_
  intro v W1 h1
  refine NoPanic.normal ?_
  simp only [frL_eq, frG, List.lookup, Nat.reduceBEq, Nat.reduceAdd, Option.getD_some, Option.getD_none]
  have HG1 := hide h1
  have m0 := h1.b1.cell (i := 0) (by omega)
  simp only [row3] at m0
  clear h1 HG HC
  go_upto_region 11 with fail
  refine wp_swap (c' := Code.region 11 rf11Ops true) (by kernel_rfl) ?_
  refine wp_region_noPanic ?_
  refine rf11 P w d a0 p0 T B x2 n2 m2 x4 n4 m4 4 x y l2 hl2 hn1 hn2 _ _ (fun _ _ _ _ _ h => h) ((unhide HG1).on (drewB _)) (by kernel_rfl) ?_
  intro v2 W2 h2
  refine NoPanic.normal ?_
  simp only [frL_eq, frG, List.lookup, Nat.reduceBEq, Nat.reduceAdd, Option.getD_some, Option.getD_none]
  have HB2 := hide h2.bel
  clear h2 HG1 m0
  go_wp2_with fail
  all_goals
    go_ret
    exact ⟨rfl, unhide HB2⟩
set_option maxRecDepth 100000 in
set_option maxHeartbeats 3200000 in
theorem refusal_make (P : Nat → Prop) (w : World) (d : Dk) (a0 : Option Addr) (p0 T B : Nat) (x2 : Option Addr) (n2 m2 : Nat) (x4 : Option Addr) (n4 m4 : Nat) (x y : ByteArray) (h : Vs P d a0 p0 T B x2 n2 m2 x4 n4 m4 w) (hx : x.size ≤ 1048576) : Calls Tryz.prog 91 #[.agg #[.pointer (some ⟨T, 0, none⟩), .pointer (some ⟨T, 0, none⟩), .slice x2 n2 m2, .pointer (some ⟨T, 0, none⟩), .slice x4 n4 m4], .agg #[.int .i64 1, .string x, .string y]] w fun e w' => e = .returned (.int .i64 (fr2 (if (hasB (d.files.map Df.name) x || !nameOkB x) = true then 3 else 0) (if (decide (64 ≤ d.files.length) || decide (128 ≤ n4)) = true then 4 else 0))) ∧ Below w.heap.size w w' := by
  obtain ⟨c, hlk, hc, -⟩ := look_all h.map x (by omega)
  have HC := hide hc
  have HG := hide (Rg.start (k := 1) (x := x) (y := y) h)
  clear hlk hc h
  go_enter Tryz.func91, Tryz.ntmps91
  go_upto_region 1 with fail
  generalize (w.alloc _).alloc _ = W0 at HG ⊢
  refine wp_swap (c' := Code.region 1 rf1Ops true) (by kernel_rfl) ?_
  refine wp_region_noPanic ?_
  refine rf1 P w d a0 p0 T B x2 n2 m2 x4 n4 m4 1 x y (by omega) c (unhide HC) _ _ (fun _ _ _ _ _ h => h) ((unhide HG).on (drewB _)) (by kernel_rfl) ?_
  intro v W1 h1
  refine NoPanic.normal ?_
  simp only [frL_eq, frG, List.lookup, Nat.reduceBEq, Nat.reduceAdd, Option.getD_some, Option.getD_none]
  have HG1 := hide h1
  have m0 := h1.b1.cell (i := 0) (by omega)
  simp only [row3] at m0
  clear h1 HG HC
  cases hb : hasB (d.files.map Df.name) x with
  | true =>
    go_upto_region 4 with fail
    refine wp_swap (c' := Code.region 4 rf4tOps true) (by kernel_rfl) ?_
    refine wp_region_noPanic ?_
    refine rf4t P w d a0 p0 T B x2 n2 m2 x4 n4 m4 1 x y _ _ (fun _ _ _ _ _ h => h) ((unhide HG1).on (drewB _)) (by kernel_rfl) ?_
    intro v2 W2 h2
    refine NoPanic.normal ?_
    simp only [frL_eq, frG, List.lookup, Nat.reduceBEq, Nat.reduceAdd, Option.getD_some, Option.getD_none]
    have HB2 := hide h2.bel
    clear h2 HG1 m0
    go_wp2_with fail
    all_goals
      go_ret
      exact ⟨rfl, unhide HB2⟩
  | false =>
    go_upto_region 4 with fail
    refine wp_swap (c' := Code.region 4 rf4fOps true) (by kernel_rfl) ?_
    refine wp_region_noPanic ?_
    refine rf4f P w d a0 p0 T B x2 n2 m2 x4 n4 m4 1 x y hx _ _ (fun _ _ _ _ _ h => h) ((unhide HG1).on (drewB _)) (by kernel_rfl) ?_
    intro v2 W2 h2
    refine NoPanic.normal ?_
    simp only [frL_eq, frG, List.lookup, Nat.reduceBEq, Nat.reduceAdd, Option.getD_some, Option.getD_none]
    have HB2 := hide h2.bel
    clear h2 HG1 m0
    go_wp2_with fail
    all_goals
      go_ret
      exact ⟨rfl, unhide HB2⟩
noncomputable def rf7Ops : Array Oper := fops Tryz.f91 7
set_option maxRecDepth 100000 in
set_option maxHeartbeats 1600000 in
theorem rf7 (P : Nat → Prop) (w : World) (d : Dk) (a0 : Option Addr) (p0 T B : Nat) (x2 : Option Addr) (n2 m2 : Nat) (x4 : Option Addr) (n4 m4 : Nat) (k : Int) (x y : ByteArray) (l2 : List ByteArray) (hl2 : mfold d.names d.moves = some l2) (hn1 : d.names.length ≤ 1000) (hn2 : d.moves.length ≤ 1000) (nr : Bool) (W : World) {l : List Value} (Q : Exit → Act → World → Prop) (h : Rg P w d a0 p0 T B x2 n2 m2 x4 n4 m4 k x y W) (hl : lookL [(2, .pointer (some ⟨w.heap.size, 0, none⟩)), (3, .pointer (some ⟨w.heap.size + 1, 0, none⟩)), (7, .bool nr)] l = (95, [.pointer (some ⟨w.heap.size, 0, none⟩), .pointer (some ⟨w.heap.size + 1, 0, none⟩), .bool nr])) (hend : ∀ v W', Rg P w d a0 p0 T B x2 n2 m2 x4 n4 m4 k x y W' → Q .normal ⟨(frL v 95 [(4, .int .i64 (fr2 (if (!hasB l2 x) = true then 2 else 0) (if nr = true then 4 else 0)))]).toArray, []⟩ W') : wpFrom Tryz.prog rf7Ops Q 0 ⟨l.toArray, []⟩ W := by
  obtain ⟨v, rfl⟩ := look_fr hl
  clear hl
  refine from_a 3 (.cons h.ld (.cons (ldStr _ _ _ h.m1) Lds.nil)) (by kernel_rfl) ?_
  refine F_go (isThere_any d.names d.moves (some ⟨T, 0, none⟩) (some ⟨T, 0, none⟩) x2 n2 m2 (some ⟨T, 0, none⟩) x4 n4 m4 P W h.pl h.ns h.fn hn1 hn2 l2 hl2 x) (by kernel_rfl) ?_
  rintro _ W1 ⟨rfl, hb⟩
  refine ⟨_, rfl, ?_⟩
  have h1 := h.on hb
  clear hb h
  refine from_a 1 Lds.nil (by kernel_rfl) ?_
  refine F_go (refusalIf_any (!hasB l2 x) 2 W1) (by kernel_rfl) ?_
  rintro _ W2 ⟨rfl, hb⟩
  refine ⟨_, rfl, ?_⟩
  have h2 : Rg P w d a0 p0 T B x2 n2 m2 x4 n4 m4 k x y W2 := hb ▸ h1
  clear hb h1
  refine from_a 1 Lds.nil (by kernel_rfl) ?_
  refine F_go (refusalIf_any nr 4 W2) (by kernel_rfl) ?_
  rintro _ W3 ⟨rfl, hb⟩
  refine ⟨_, rfl, ?_⟩
  have h3 : Rg P w d a0 p0 T B x2 n2 m2 x4 n4 m4 k x y W3 := hb ▸ h2
  clear hb h2
  refine F_new (w' := W3.alloc (.cells #[.int .i64 (if (!hasB l2 x) = true then 2 else 0), .int .i64 (if nr = true then 4 else 0)] 3)) (some 70) (.slice (some ⟨W3.heap.size, 0, none⟩) 2 2) (by kernel_rfl) (by kernel_rfl) (by kernel_rfl) ?_
  refine F_go (firstRefusal_two W3.heap.size (if (!hasB l2 x) = true then 2 else 0) (if nr = true then 4 else 0) _ (two_cells W3 _ _ _).1 (two_cells W3 _ _ _).2) (by kernel_rfl) ?_
  rintro _ W4 ⟨rfl, hb⟩
  refine ⟨_, rfl, ?_⟩
  have h4 : Rg P w d a0 p0 T B x2 n2 m2 x4 n4 m4 k x y W4 := hb ▸ h3.on ((Below.refl _ W3).alloc (Nat.le_refl _) _)
  exact from_q 1 95 [(4, .int .i64 (fr2 (if (!hasB l2 x) = true then 2 else 0) (if nr = true then 4 else 0)))] [] (by kernel_rfl) Lds.nil fun v => from_end (by kernel_rfl) (hend v _ h4)
set_option maxRecDepth 100000 in
set_option maxHeartbeats 3200000 in
theorem refusal_addN (P : Nat → Prop) (w : World) (d : Dk) (a0 : Option Addr) (p0 T B : Nat) (x2 : Option Addr) (n2 m2 : Nat) (x4 : Option Addr) (n4 m4 : Nat) (x y : ByteArray) (h : Vs P d a0 p0 T B x2 n2 m2 x4 n4 m4 w) (hx : x.size ≤ 1048576) (l2 : List ByteArray) (hl2 : mfold d.names d.moves = some l2) (hn1 : d.names.length ≤ 1000) (hn2 : d.moves.length ≤ 1000) (hb : hasB (d.files.map Df.name) x = false) : Calls Tryz.prog 91 #[.agg #[.pointer (some ⟨T, 0, none⟩), .pointer (some ⟨T, 0, none⟩), .slice x2 n2 m2, .pointer (some ⟨T, 0, none⟩), .slice x4 n4 m4], .agg #[.int .i64 2, .string x, .string y]] w fun e w' => e = .returned (.int .i64 (fr2 (if (!hasB l2 x) = true then 2 else 0) (if false = true then 4 else 0))) ∧ Below w.heap.size w w' := by
  obtain ⟨c, hlk, hc, -⟩ := look_all h.map x (by omega)
  have HC := hide hc
  have HG := hide (Rg.start (k := 2) (x := x) (y := y) h)
  clear hlk hc h
  go_enter Tryz.func91, Tryz.ntmps91
  go_upto_region 1 with fail
  generalize (w.alloc _).alloc _ = W0 at HG ⊢
  refine wp_swap (c' := Code.region 1 rf1Ops true) (by kernel_rfl) ?_
  refine wp_region_noPanic ?_
  refine rf1 P w d a0 p0 T B x2 n2 m2 x4 n4 m4 2 x y (by omega) c (unhide HC) _ _ (fun _ _ _ _ _ h => h) ((unhide HG).on (drewB _)) (by kernel_rfl) ?_
  intro v W1 h1
  refine NoPanic.normal ?_
  simp only [frL_eq, frG, List.lookup, Nat.reduceBEq, Nat.reduceAdd, Option.getD_some, Option.getD_none]
  have HG1 := hide h1
  have m0 := h1.b1.cell (i := 0) (by omega)
  simp only [row3] at m0
  clear h1 HG HC
  rw [hb]
  go_upto_region 6 with fail
  refine wp_swap (c' := Code.region 6 rf6fOps true) (by kernel_rfl) ?_
  refine wp_region_noPanic ?_
  refine rf6f P w d a0 p0 T B x2 n2 m2 x4 n4 m4 2 x y _ _ (fun _ _ _ _ _ h => h) ((unhide HG1).on (drewB _)) (by kernel_rfl) ?_
  intro v2 W2 h2
  refine NoPanic.normal ?_
  simp only [frL_eq, frG, List.lookup, Nat.reduceBEq, Nat.reduceAdd, Option.getD_some, Option.getD_none]
  have HG2 := hide h2
  clear h2 HG1 m0
  go_upto_region 7 with fail
  refine wp_swap (c' := Code.region 7 rf7Ops false) (by kernel_rfl) ?_
  refine wp_region_from ?_
  refine rf7 P w d a0 p0 T B x2 n2 m2 x4 n4 m4 2 x y l2 hl2 hn1 hn2 false W2 _ (unhide HG2) (by kernel_rfl) ?_
  intro v3 W3 h3
  simp only [frL_eq, frG, List.lookup, Nat.reduceBEq, Nat.reduceAdd, Option.getD_some, Option.getD_none]
  have HB3 := hide h3.bel
  clear h3 HG2
  go_wp2_with fail
  all_goals
    go_ret
    exact ⟨rfl, unhide HB3⟩
set_option maxRecDepth 100000 in
set_option maxHeartbeats 3200000 in
theorem refusal_addY (P : Nat → Prop) (w : World) (d : Dk) (a0 : Option Addr) (p0 T B : Nat) (x2 : Option Addr) (n2 m2 : Nat) (x4 : Option Addr) (n4 m4 : Nat) (x y : ByteArray) (h : Vs P d a0 p0 T B x2 n2 m2 x4 n4 m4 w) (hx : x.size ≤ 1048576) (l2 : List ByteArray) (hl2 : mfold d.names d.moves = some l2) (hn1 : d.names.length ≤ 1000) (hn2 : d.moves.length ≤ 1000) (hnd : (d.files.map Df.name).Nodup) (i : Nat) (hi : i < d.files.length) (hxi : d.files[i].name = x) : Calls Tryz.prog 91 #[.agg #[.pointer (some ⟨T, 0, none⟩), .pointer (some ⟨T, 0, none⟩), .slice x2 n2 m2, .pointer (some ⟨T, 0, none⟩), .slice x4 n4 m4], .agg #[.int .i64 2, .string x, .string y]] w fun e w' => e = .returned (.int .i64 (fr2 (if (!hasB l2 x) = true then 2 else 0) (if (decide (IntKind.i64.wrap (20000 - (d.files[i].data.size : Int)) < (y.size : Int))) = true then 4 else 0))) ∧ Below w.heap.size w w' := by
  have hb : hasB (d.files.map Df.name) x = true := hasB_iff.2 (by rw [← hxi]; exact List.mem_map.2 ⟨_, List.getElem_mem hi, rfl⟩)
  obtain ⟨c, hlk, hc, -⟩ := look_all h.map x (by omega)
  have HC := hide hc
  have HG := hide (Rg.start (k := 2) (x := x) (y := y) h)
  clear hlk hc h
  go_enter Tryz.func91, Tryz.ntmps91
  go_upto_region 1 with fail
  generalize (w.alloc _).alloc _ = W0 at HG ⊢
  refine wp_swap (c' := Code.region 1 rf1Ops true) (by kernel_rfl) ?_
  refine wp_region_noPanic ?_
  refine rf1 P w d a0 p0 T B x2 n2 m2 x4 n4 m4 2 x y (by omega) c (unhide HC) _ _ (fun _ _ _ _ _ h => h) ((unhide HG).on (drewB _)) (by kernel_rfl) ?_
  intro v W1 h1
  refine NoPanic.normal ?_
  simp only [frL_eq, frG, List.lookup, Nat.reduceBEq, Nat.reduceAdd, Option.getD_some, Option.getD_none]
  have HG1 := hide h1
  have m0 := h1.b1.cell (i := 0) (by omega)
  simp only [row3] at m0
  clear h1 HG HC
  rw [hb]
  clear hb
  go_upto_region 6 with fail
  refine wp_swap (c' := Code.region 6 rf6tOps true) (by kernel_rfl) ?_
  refine wp_region_noPanic ?_
  refine rf6t P w d a0 p0 T B x2 n2 m2 x4 n4 m4 2 x y hnd i hi hxi _ _ (fun _ _ _ _ _ h => h) ((unhide HG1).on (drewB _)) (by kernel_rfl) ?_
  intro v2 W2 h2
  refine NoPanic.normal ?_
  simp only [frL_eq, frG, List.lookup, Nat.reduceBEq, Nat.reduceAdd, Option.getD_some, Option.getD_none]
  have HG2 := hide h2
  clear h2 HG1 m0
  go_upto_region 7 with fail
  refine wp_swap (c' := Code.region 7 rf7Ops false) (by kernel_rfl) ?_
  refine wp_region_from ?_
  refine rf7 P w d a0 p0 T B x2 n2 m2 x4 n4 m4 2 x y l2 hl2 hn1 hn2 (decide (IntKind.i64.wrap (20000 - (d.files[i].data.size : Int)) < (y.size : Int))) W2 _ (unhide HG2) (by kernel_rfl) ?_
  intro v3 W3 h3
  simp only [frL_eq, frG, List.lookup, Nat.reduceBEq, Nat.reduceAdd, Option.getD_some, Option.getD_none]
  have HB3 := hide h3.bel
  clear h3 HG2
  go_wp2_with fail
  all_goals
    go_ret
    exact ⟨rfl, unhide HB3⟩
end Go.Proofs.YtgdiankfnemjjaaGreat
