/- The walk of the specification's l52Copy: a world anew, its lists in blocks of their own. Conditions: the weight, at most 2^20. -/
import Derived.Test.YtibgjcejddpldaaGreatPart07
import Derived.Test.YtibgjcejddpldaaGreatPart13
import Derived.Test.YtibgjcejddpldaaGreatPart24
import Derived.Test.YtibgjcejddpldaaGreatPart14
import Derived.Test.YtibgjcejddpldaaGreatPart06
import Derived.Test.YtibgjcejddpldaaGreatPart16
import Derived.Test.YtibgjcejddpldaaGreatPart25
import Derived.Test.YtibgjcejddpldaaGreatPart09
namespace Go.Proofs.YtibgjcejddpldaaGreat
open Go Go.RowKit

end Go.Proofs.YtibgjcejddpldaaGreat

/- The walk of the specification's CrewCancel. No conditions. -/

namespace Go.Proofs.YtibgjcejddpldaaGreat
open Go Go.RowKit

end Go.Proofs.YtibgjcejddpldaaGreat

/- Worlds in boxes, for the law on CrewCancel. No program walked but the law's own. No conditions. -/

namespace Go.Proofs.YtibgjcejddpldaaGreat
open Go Go.RowKit

theorem Bx.markG {W : World} {c : Cw} {v : C7} {Fq Fh Fr Fg Fo Ft Fs : List Nat} {lo b : Nat} (h : Bx W c c v Fq Fh Fr Fg Fo Ft Fs lo b) (hk : mkC c ≤ 4194304) :
    Calls Tryz.prog 27 #[.agg #[.int .i64 c.jobs, .int .i64 c.workers, .int .i64 c.window, .int .i64 c.next, .int .i64 c.reader, v.q, v.h, .int .i64 c.closer, v.r, .int .i64 c.keeper, v.g, .int .i64 c.due, v.o, .int .i64 c.user, v.t, .int .i64 c.room, v.s, .int .i64 c.ops], .int .i64 1] W fun e w' => e = .returned (.int .i64 (1 + mkC c : Nat)) ∧ Exc (F7 Fq Fh Fr Fg Fo Ft Fs) W w' := by
  refine (markCrewWorld_own c v Fq Fh Fr Fg Fo Ft Fs 1 W h.own h.dj h.lt (by omega)).mono ?_
  rintro e w' ⟨rfl, ho, hx⟩
  exact ⟨rfl, hx⟩
theorem Bx.ld {W : World} {c c' : Cw} {v : C7} {Fq Fh Fr Fg Fo Ft Fs : List Nat} {lo b : Nat} (h : Bx W c c' v Fq Fh Fr Fg Fo Ft Fs lo b) : (Instr.loadAt 26 (.pointer (some ⟨b, 0, none⟩))).run Tryz.prog W = .ok (.agg #[.int .i64 c.jobs, .int .i64 c.workers, .int .i64 c.window, .int .i64 c.next, .int .i64 c.reader, v.q, v.h, .int .i64 c.closer, v.r, .int .i64 c.keeper, v.g, .int .i64 c.due, v.o, .int .i64 c.user, v.t, .int .i64 c.room, v.s, .int .i64 c.ops]) W := by
  obtain ⟨dd, hdu, hdr⟩ := rowWorld
  unfold Instr.loadAt
  simp only [Instr.sureAddr, Sem.run_bind, Sem.run_pure, Result.andThen_ok, run_loadVar_mid W b 0 26 [.int .i64 c.jobs, .int .i64 c.workers, .int .i64 c.window, .int .i64 c.next, .int .i64 c.reader, v.q, v.h, .int .i64 c.closer, v.r, .int .i64 c.keeper, v.g, .int .i64 c.due, v.o, .int .i64 c.user, v.t, .int .i64 c.room, v.s, .int .i64 c.ops] dd h.range hdu hdr info18]
theorem Bc.exc {T : TypeId} {P : Nat → Prop} {b : Nat} {c : Cw} {A : A7} {W W' : World} {G : List Nat} (h : Bc T P b c A W) (hx : Exc G W W') (hP : ∀ x, P x → x ∉ G) (hb : b ∉ G) : Bc T P b c A W' :=
  ⟨h.row.of_block (hx.block _ h.row.lt hb), h.at'.carry (fun x hp => hx.block x (h.lt x hp) (hP x hp)) (fun _ h => h), fun x hp => Nat.lt_of_lt_of_le (h.lt x hp) hx.size⟩
theorem toCrewWorld_val (c : Cw) (A : A7) (P : Nat → Prop) (w : World) (h : CwAt P w c (A.v c)) (hP : ∀ b, P b → b < w.heap.size) (hwt : wC c ≤ 1048576) : Calls Tryz.prog 23 #[.agg #[.int .i64 c.jobs, .int .i64 c.workers, .int .i64 c.window, .int .i64 c.next, .int .i64 c.reader, .slice A.q c.queue.length A.pq, .slice A.h c.hands.length A.ph, .int .i64 c.closer, .slice A.r c.results.length A.pr, .int .i64 c.keeper, .slice A.g c.ring.length A.pg, .int .i64 c.due, .slice A.o c.out.length A.po, .int .i64 c.user, .slice A.t c.got.length A.pt, .int .i64 c.room, .slice A.s c.shut.length A.ps, .int .i64 c.ops]] w fun e w' => CwVal w w' e c := by
  refine (toCrewWorld_own c A P w h hP hwt).mono ?_
  rintro e w' ⟨A', Fq, Fh, Fr, Fg, Fo, Ft, Fs, rfl, ho, hd, hr, hb⟩
  exact ⟨A'.v c, Fq, Fh, Fr, Fg, Fo, Ft, Fs, rfl, ho, hd, hr, hb⟩
end Go.Proofs.YtibgjcejddpldaaGreat

/- The ways that are open to each of a crew, and its moves: data, and lists of truths in memory. No program. No conditions. -/

namespace Go.Proofs.YtibgjcejddpldaaGreat
open Go Go.RowKit

def bcs (b : Bool) : List Value := [.bool b]
def BAt (P : Nat → Prop) (w : World) (v : Value) (bs : List Bool) : Prop := FlatAt P w v 1 (bs.map bcs)
/-- A list of truths in new memory is given back. -/
def BsEnd (w w' : World) (e : Ending) (bs : List Bool) : Prop := ∃ a cap, e = .returned (.slice a bs.length cap) ∧ BAt (New w w') w' (.slice a bs.length cap) bs ∧ Below w.heap.size w w'
theorem bs_new {w W : World} (hb : Below w.heap.size w W) (bs : List Bool) (hl : bs.length ≤ 100) : BsEnd w (W.alloc (.cells (bs.map Value.bool).toArray 4)) (.returned (.slice (some ⟨W.heap.size, 0, none⟩) bs.length bs.length)) bs := by
  have hr := World.rowIs_alloc W (bs.map Value.bool).toArray 4 (fun i => ((bs.map Value.bool).toArray)[i]?.getD undef) (fun i hi => by simp at hi; simp [hi])
  refine ⟨_, _, rfl, ⟨_, _, by rw [List.length_map], by rw [List.length_map]; omega, fun i hi => ⟨W.heap.size, 0, rfl, ⟨hb.size, by simp⟩, fun j hj => ?_⟩⟩, hb.alloc hb.size _⟩
  obtain rfl : j = 0 := by omega
  rw [List.length_map] at hi
  rw [Nat.zero_add, Nat.add_zero, Nat.mul_one, hr.cell (by simpa using hi)]
  simp [hi, bcs]
/-- The ways of the reader, of a worker, of the closer, of the keeper, of the user. -/
def wayR (c : Cw) : List Bool := if c.reader = 0 then (if c.next = c.jobs then [false, false, true] else [decide (0 < c.room), stpB c, false]) else if c.reader = 1 then [decide ((c.queue.length : Int) < c.workers), stpB c] else if c.reader = 2 then [true] else []
def wayW (c : Cw) (h : Hd) : List Bool := if h.state = 0 then [decide (0 < c.queue.length), stpB c, decide (c.queue.length = 0) && decide (shZ c 0 = 1)] else if h.state = 1 then [true] else if h.state = 2 then [decide ((c.results.length : Int) < c.workers), stpB c] else []
def wayC (c : Cw) : List Bool := [decide (c.closer = 0) && allE c.hands]
def wayK (c : Cw) : List Bool := if c.keeper = 0 then [decide (0 < c.results.length), stpB c, decide (c.results.length = 0) && decide (shZ c 1 = 1)] else if c.keeper = 2 then [decide (c.out.length = 0), stpB c] else if c.keeper = 5 then [] else [true]
def wayU (c : Cw) : List Bool := if c.user = 1 then [] else [decide (0 < c.out.length), decide (c.out.length = 0) && decide (shZ c 2 = 1)]
def ways (c : Cw) (who : Nat) : List Bool := if who = 0 then wayR c else if who ≤ c.hands.length then wayW c (c.hands.getD (who - 1) ⟨0, 0⟩) else if who = c.hands.length + 1 then wayC c else if who = c.hands.length + 2 then wayK c else wayU c
/-- The moves of one of the crew: the places of the ways that are open. -/
def mvs (who : Nat) : Nat → List Bool → List (Nat × Nat)
  | _, [] => []
  | i, b :: bs => (if b then [(who, i)] else []) ++ mvs who (i + 1) bs
def movesD (c : Cw) : List (Nat × Nat) := (List.range (c.hands.length + 4)).flatMap fun who => mvs who 0 (ways c who)
end Go.Proofs.YtibgjcejddpldaaGreat

/- The walks of the specification's l52Reader, l52Keeper. No conditions. -/

namespace Go.Proofs.YtibgjcejddpldaaGreat
open Go Go.RowKit

set_option maxRecDepth 100000 in
set_option maxHeartbeats 3200000 in
theorem l52Reader_any (c : Cw) (A : A7) (P : Nat → Prop) (w : World) (h : CwAt P w c (A.v c)) (hP : ∀ b, P b → b < w.heap.size) (hF : Form c) : Calls Tryz.prog 67 #[.agg #[.int .i64 c.jobs, .int .i64 c.workers, .int .i64 c.window, .int .i64 c.next, .int .i64 c.reader, .slice A.q c.queue.length A.pq, .slice A.h c.hands.length A.ph, .int .i64 c.closer, .slice A.r c.results.length A.pr, .int .i64 c.keeper, .slice A.g c.ring.length A.pg, .int .i64 c.due, .slice A.o c.out.length A.po, .int .i64 c.user, .slice A.t c.got.length A.pt, .int .i64 c.room, .slice A.s c.shut.length A.ps, .int .i64 c.ops]] w fun e w' => BsEnd w w' e (wayR c) := by
  have HS := hide (Ag.start h hP)
  obtain ⟨b, o, -, k16, ks⟩ := (unhide HS).sh hF 3 (by omega)
  have k4 := (unhide HS).k4; have k3 := (unhide HS).k3; have k0 := (unhide HS).k0; have k15 := (unhide HS).k15; have k5 := (unhide HS).k5; have k1 := (unhide HS).k1
  have hql : c.queue.length ≤ 9223372036854775807 := by have := hF.queue; have := hF.st.2.1.2; omega
  clear h hP hF
  have HB := hide (unhide HS).bel
  clear HS
  go_enter Tryz.func67, Tryz.ntmps67
  go_upto_region 1 with fail
  generalize w.alloc (.cells #[.int .i64 c.jobs, .int .i64 c.workers, .int .i64 c.window, .int .i64 c.next, .int .i64 c.reader, .slice A.q c.queue.length A.pq, .slice A.h c.hands.length A.ph, .int .i64 c.closer, .slice A.r c.results.length A.pr, .int .i64 c.keeper, .slice A.g c.ring.length A.pg, .int .i64 c.due, .slice A.o c.out.length A.po, .int .i64 c.user, .slice A.t c.got.length A.pt, .int .i64 c.room, .slice A.s c.shut.length A.ps, .int .i64 c.ops] 26) = W0 at HB k16 ks k4 k3 k0 k15 k5 k1 ⊢
  by_cases r0 : c.reader = 0
  · by_cases hn : c.next = c.jobs
    · have HV := hide (show wayR c = [false, false, true] from by unfold wayR; rw [if_pos r0, if_pos hn])
      rw [r0] at k4
      have hn' : (c.next == c.jobs) = true := by simp [hn]
      clear hn r0
      generalize c.next = x1 at k3 hn'
      generalize c.jobs = x2 at k0 hn'
      go_wp2_with fail
      go_ret
      rw [unhide HV]
      exact bs_new (unhide HB) [false, false, true] (by simp)
    · have HV := hide (show wayR c = [decide (0 < c.room), (shZ c 3 == 1), false] from by unfold wayR; rw [if_pos r0, if_neg hn]; rfl)
      rw [r0] at k4
      have hn' : (c.next == c.jobs) = false := by simp [hn]
      clear hn r0
      generalize shZ c 3 = x3 at ks HV
      generalize c.next = x1 at k3 hn'
      generalize c.jobs = x2 at k0 hn'
      generalize c.room = x4 at k15 HV
      go_wp2_with fail
      go_ret
      rw [unhide HV]
      exact bs_new (unhide HB) [decide (0 < x4), (x3 == 1), false] (by simp)
  have z0 : (c.reader == 0) = false := by simp [r0]
  by_cases r1 : c.reader = 1
  · have HV := hide (show wayR c = [decide ((c.queue.length : Int) < c.workers), (shZ c 3 == 1)] from by unfold wayR; rw [if_neg r0, if_pos r1]; rfl)
    rw [r1] at k4
    clear r1 z0 r0
    generalize shZ c 3 = x3 at ks HV
    generalize c.queue.length = x5 at k5 hql HV
    generalize c.workers = x6 at k1 HV
    go_wp2_with fail
    go_ret
    rw [unhide HV]
    exact bs_new (unhide HB) [decide ((x5 : Int) < x6), (x3 == 1)] (by simp)
  have z1 : (c.reader == 1) = false := by simp [r1]
  by_cases r2 : c.reader = 2
  · have HV := hide (show wayR c = [true] from by unfold wayR; rw [if_neg r0, if_neg r1, if_pos r2])
    rw [r2] at k4
    clear r2 z0 z1 r0 r1
    go_wp2_with fail
    go_ret
    rw [unhide HV]
    exact bs_new (unhide HB) [true] (by simp)
  · have HV := hide (show wayR c = [] from by unfold wayR; rw [if_neg r0, if_neg r1, if_neg r2])
    have z2 : (c.reader == 2) = false := by simp [r2]
    clear r2 r0 r1
    generalize c.reader = x7 at k4 z0 z1 z2
    go_wp2_with fail
    go_ret
    rw [unhide HV]
    exact bs_new (unhide HB) [] (by simp)
end Go.Proofs.YtibgjcejddpldaaGreat
