/- A world in a box, whoever laid it. No program walked. No conditions. -/
import Derived.Test.YtibgjcejddpldaaGreatPart15
import Derived.Test.YtibgjcejddpldaaGreatPart11
namespace Go.Proofs.YtibgjcejddpldaaGreat
open Go Go.RowKit

theorem rowWorldL : ∃ d, Tryz.prog.underlying 45 = some d ∧ d.isRow = true := ⟨_, Tryz.underlying45, by rfl⟩
theorem info18L : (Tryz.prog.info? 45).map (·.size) = some 18 := by kernel_rfl
structure Bc (T : TypeId) (P : Nat → Prop) (b : Nat) (c : Cw) (A : A7) (W : World) : Prop where
  row : W.rowIs b T 18 (r18 [.int .i64 c.jobs, .int .i64 c.workers, .int .i64 c.window, .int .i64 c.next, .int .i64 c.reader, .slice A.q c.queue.length A.pq, .slice A.h c.hands.length A.ph, .int .i64 c.closer, .slice A.r c.results.length A.pr, .int .i64 c.keeper, .slice A.g c.ring.length A.pg, .int .i64 c.due, .slice A.o c.out.length A.po, .int .i64 c.user, .slice A.t c.got.length A.pt, .int .i64 c.room, .slice A.s c.shut.length A.ps, .int .i64 c.ops])
  at' : CwAt P W c (A.v c)
  lt : ∀ x, P x → x < W.heap.size
theorem Bc.on {T : TypeId} {P : Nat → Prop} {b : Nat} {c : Cw} {A : A7} {W W' : World} (h : Bc T P b c A W) (hb : Below W.heap.size W W') : Bc T P b c A W' :=
  ⟨h.row.of_block (hb.block _ h.row.lt), h.at'.carry (fun x hx => hb.block x (h.lt x hx)) (fun _ h => h), fun x hx => Nat.lt_of_lt_of_le (h.lt x hx) hb.size⟩
theorem Bc.range {T : TypeId} {P : Nat → Prop} {b : Nat} {c : Cw} {A : A7} {W : World} (h : Bc T P b c A W) : W.rangeAt b 0 [.int .i64 c.jobs, .int .i64 c.workers, .int .i64 c.window, .int .i64 c.next, .int .i64 c.reader, .slice A.q c.queue.length A.pq, .slice A.h c.hands.length A.ph, .int .i64 c.closer, .slice A.r c.results.length A.pr, .int .i64 c.keeper, .slice A.g c.ring.length A.pg, .int .i64 c.due, .slice A.o c.out.length A.po, .int .i64 c.user, .slice A.t c.got.length A.pt, .int .i64 c.room, .slice A.s c.shut.length A.ps, .int .i64 c.ops] := range_row [.int .i64 c.jobs, .int .i64 c.workers, .int .i64 c.window, .int .i64 c.next, .int .i64 c.reader, .slice A.q c.queue.length A.pq, .slice A.h c.hands.length A.ph, .int .i64 c.closer, .slice A.r c.results.length A.pr, .int .i64 c.keeper, .slice A.g c.ring.length A.pg, .int .i64 c.due, .slice A.o c.out.length A.po, .int .i64 c.user, .slice A.t c.got.length A.pt, .int .i64 c.room, .slice A.s c.shut.length A.ps, .int .i64 c.ops] rfl h.row
theorem Bc.ldL {P : Nat → Prop} {b : Nat} {c : Cw} {A : A7} {W : World} (h : Bc 45 P b c A W) : (Instr.loadAt 45 (.pointer (some ⟨b, 0, none⟩))).run Tryz.prog W = .ok (.agg #[.int .i64 c.jobs, .int .i64 c.workers, .int .i64 c.window, .int .i64 c.next, .int .i64 c.reader, .slice A.q c.queue.length A.pq, .slice A.h c.hands.length A.ph, .int .i64 c.closer, .slice A.r c.results.length A.pr, .int .i64 c.keeper, .slice A.g c.ring.length A.pg, .int .i64 c.due, .slice A.o c.out.length A.po, .int .i64 c.user, .slice A.t c.got.length A.pt, .int .i64 c.room, .slice A.s c.shut.length A.ps, .int .i64 c.ops]) W := by
  obtain ⟨dd, hdu, hdr⟩ := rowWorldL
  unfold Instr.loadAt
  simp only [Instr.sureAddr, Sem.run_bind, Sem.run_pure, Result.andThen_ok, run_loadVar_mid W b 0 45 [.int .i64 c.jobs, .int .i64 c.workers, .int .i64 c.window, .int .i64 c.next, .int .i64 c.reader, .slice A.q c.queue.length A.pq, .slice A.h c.hands.length A.ph, .int .i64 c.closer, .slice A.r c.results.length A.pr, .int .i64 c.keeper, .slice A.g c.ring.length A.pg, .int .i64 c.due, .slice A.o c.out.length A.po, .int .i64 c.user, .slice A.t c.got.length A.pt, .int .i64 c.room, .slice A.s c.shut.length A.ps, .int .i64 c.ops] dd h.range hdu hdr info18L]
theorem Bc.start {P : Nat → Prop} {w : World} {c : Cw} {A : A7} (h : CwAt P w c (A.v c)) (hP : ∀ b, P b → b < w.heap.size) : Bc 45 P w.heap.size c A (w.alloc (.cells #[.int .i64 c.jobs, .int .i64 c.workers, .int .i64 c.window, .int .i64 c.next, .int .i64 c.reader, .slice A.q c.queue.length A.pq, .slice A.h c.hands.length A.ph, .int .i64 c.closer, .slice A.r c.results.length A.pr, .int .i64 c.keeper, .slice A.g c.ring.length A.pg, .int .i64 c.due, .slice A.o c.out.length A.po, .int .i64 c.user, .slice A.t c.got.length A.pt, .int .i64 c.room, .slice A.s c.shut.length A.ps, .int .i64 c.ops] 45)) :=
  ⟨box18 w c (A.v c) 45, h.carry (fun b hb => Below.heap_alloc _ _ _ (hP b hb)) (fun _ h => h), fun x hx => Nat.lt_of_lt_of_le (hP x hx) (by simp)⟩
end Go.Proofs.YtibgjcejddpldaaGreat

/- A world at the moment at which the user stops: data. No program. No conditions. -/

namespace Go.Proofs.YtibgjcejddpldaaGreat
open Go Go.RowKit

end Go.Proofs.YtibgjcejddpldaaGreat
