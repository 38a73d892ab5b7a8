/- A world in a box, whoever laid it. No program walked. No conditions. -/
import Derived.Test.YtibgjcejddpldaaPart17
import Derived.Test.YtibgjcejddpldaaPart13
namespace Go.Proofs.Ytibgjcejddpldaa
open Go Go.RowKit

theorem rowWorldL : ∃ d, Try.prog.underlying 25 = some d ∧ d.isRow = true := ⟨_, Try.underlying25, by rfl⟩
theorem info18L : (Try.prog.info? 25).map (·.size) = some 18 := by kernel_rfl
structure Bc (T : TypeId) (P : Nat → Prop) (b : Nat) (c : Cw) (A : A7) (W : World) : Prop where
  row : W.rowIs b T 18 (r18 [.int .i64 c.jobs, .int .i64 c.workers, .int .i64 c.window, .int .i64 c.next, .int .i64 c.reader, .slice A.q c.queue.length A.pq, .slice A.h c.hands.length A.ph, .int .i64 c.closer, .slice A.r c.results.length A.pr, .int .i64 c.keeper, .slice A.g c.ring.length A.pg, .int .i64 c.due, .slice A.o c.out.length A.po, .int .i64 c.user, .slice A.t c.got.length A.pt, .int .i64 c.room, .slice A.s c.shut.length A.ps, .int .i64 c.ops])
  at' : CwAt P W c (A.v c)
  lt : ∀ x, P x → x < W.heap.size
theorem Bc.on {T : TypeId} {P : Nat → Prop} {b : Nat} {c : Cw} {A : A7} {W W' : World} (h : Bc T P b c A W) (hb : Below W.heap.size W W') : Bc T P b c A W' :=
  ⟨h.row.of_block (hb.block _ h.row.lt), h.at'.carry (fun x hx => hb.block x (h.lt x hx)) (fun _ h => h), fun x hx => Nat.lt_of_lt_of_le (h.lt x hx) hb.size⟩
theorem Bc.range {T : TypeId} {P : Nat → Prop} {b : Nat} {c : Cw} {A : A7} {W : World} (h : Bc T P b c A W) : W.rangeAt b 0 [.int .i64 c.jobs, .int .i64 c.workers, .int .i64 c.window, .int .i64 c.next, .int .i64 c.reader, .slice A.q c.queue.length A.pq, .slice A.h c.hands.length A.ph, .int .i64 c.closer, .slice A.r c.results.length A.pr, .int .i64 c.keeper, .slice A.g c.ring.length A.pg, .int .i64 c.due, .slice A.o c.out.length A.po, .int .i64 c.user, .slice A.t c.got.length A.pt, .int .i64 c.room, .slice A.s c.shut.length A.ps, .int .i64 c.ops] := range_row [.int .i64 c.jobs, .int .i64 c.workers, .int .i64 c.window, .int .i64 c.next, .int .i64 c.reader, .slice A.q c.queue.length A.pq, .slice A.h c.hands.length A.ph, .int .i64 c.closer, .slice A.r c.results.length A.pr, .int .i64 c.keeper, .slice A.g c.ring.length A.pg, .int .i64 c.due, .slice A.o c.out.length A.po, .int .i64 c.user, .slice A.t c.got.length A.pt, .int .i64 c.room, .slice A.s c.shut.length A.ps, .int .i64 c.ops] rfl h.row
theorem Bc.ldL {P : Nat → Prop} {b : Nat} {c : Cw} {A : A7} {W : World} (h : Bc 25 P b c A W) : (Instr.loadAt 25 (.pointer (some ⟨b, 0, none⟩))).run Try.prog W = .ok (.agg #[.int .i64 c.jobs, .int .i64 c.workers, .int .i64 c.window, .int .i64 c.next, .int .i64 c.reader, .slice A.q c.queue.length A.pq, .slice A.h c.hands.length A.ph, .int .i64 c.closer, .slice A.r c.results.length A.pr, .int .i64 c.keeper, .slice A.g c.ring.length A.pg, .int .i64 c.due, .slice A.o c.out.length A.po, .int .i64 c.user, .slice A.t c.got.length A.pt, .int .i64 c.room, .slice A.s c.shut.length A.ps, .int .i64 c.ops]) W := by
  obtain ⟨dd, hdu, hdr⟩ := rowWorldL
  unfold Instr.loadAt
  simp only [Instr.sureAddr, Sem.run_bind, Sem.run_pure, Result.andThen_ok, run_loadVar_mid W b 0 25 [.int .i64 c.jobs, .int .i64 c.workers, .int .i64 c.window, .int .i64 c.next, .int .i64 c.reader, .slice A.q c.queue.length A.pq, .slice A.h c.hands.length A.ph, .int .i64 c.closer, .slice A.r c.results.length A.pr, .int .i64 c.keeper, .slice A.g c.ring.length A.pg, .int .i64 c.due, .slice A.o c.out.length A.po, .int .i64 c.user, .slice A.t c.got.length A.pt, .int .i64 c.room, .slice A.s c.shut.length A.ps, .int .i64 c.ops] dd h.range hdu hdr info18L]
theorem Bc.start {P : Nat → Prop} {w : World} {c : Cw} {A : A7} (h : CwAt P w c (A.v c)) (hP : ∀ b, P b → b < w.heap.size) : Bc 25 P w.heap.size c A (w.alloc (.cells #[.int .i64 c.jobs, .int .i64 c.workers, .int .i64 c.window, .int .i64 c.next, .int .i64 c.reader, .slice A.q c.queue.length A.pq, .slice A.h c.hands.length A.ph, .int .i64 c.closer, .slice A.r c.results.length A.pr, .int .i64 c.keeper, .slice A.g c.ring.length A.pg, .int .i64 c.due, .slice A.o c.out.length A.po, .int .i64 c.user, .slice A.t c.got.length A.pt, .int .i64 c.room, .slice A.s c.shut.length A.ps, .int .i64 c.ops] 25)) :=
  ⟨box18 w c (A.v c) 25, h.carry (fun b hb => Below.heap_alloc _ _ _ (hP b hb)) (fun _ h => h), fun x hx => Nat.lt_of_lt_of_le (hP x hx) (by simp)⟩
end Go.Proofs.Ytibgjcejddpldaa

/- A world at the moment at which the user stops: data. No program. No conditions. -/

namespace Go.Proofs.Ytibgjcejddpldaa
open Go Go.RowKit

/-- The user may stop. -/
def cnOk (c : Cw) : Prop := okS c ∧ c.user ≠ 1
/-- The world behind it. -/
def cnTo (c : Cw) : Cw := { c with user := 1, shut := c.shut.set 3 1, ops := c.ops + 1 }
theorem cnOk.form {c : Cw} (h : cnOk c) : Form c := ((formS_iff c).1 h.1.1).1
theorem cnOk.shut {c : Cw} (h : cnOk c) : shZ c 3 = 0 := by
  have hF := h.form
  have he := h.1.2.2.1
  unfold endsB at he
  simp only [Bool.and_eq_true] at he
  have h4 : e4 c = false := by simpa using he.1.1.1.1.1.1.2
  unfold e4 stpB at h4
  have hu := h.2
  simp only [hu, decide_false, Bool.not_false, Bool.and_true, decide_eq_false_iff_not] at h4
  have hl := hF.shut
  have hm : shZ c 3 ∈ c.shut := by
    unfold shZ
    rw [List.getD_eq_getElem?_getD, List.getElem?_eq_getElem (by omega)]
    exact List.getElem_mem _
  have := hF.shuts _ hm
  omega
theorem cnTo_shut {c : Cw} (h : c.shut.length = 4) : (cnTo c).shut.length = 4 ∧ (cnTo c).shut.getD 0 0 = c.shut.getD 0 0 ∧ (cnTo c).shut.getD 1 0 = c.shut.getD 1 0 ∧ (cnTo c).shut.getD 2 0 = c.shut.getD 2 0 ∧ (cnTo c).shut.getD 3 0 = 1 := by
  unfold cnTo
  match c.shut, h with
  | [_, _, _, _], _ => exact ⟨rfl, rfl, rfl, rfl, rfl⟩
end Go.Proofs.Ytibgjcejddpldaa
