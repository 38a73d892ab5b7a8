/- A part. -/
import Derived.Test.YtibgjcejddpldaaGreatPart09
namespace Go.Proofs.YtibgjcejddpldaaGreat
open Go Go.RowKit
set_option maxRecDepth 100000
set_option maxHeartbeats 12800000
def shZ (c : Cw) (i : Nat) : Int := c.shut.getD i 0
def stpB (c : Cw) : Bool := decide (shZ c 3 = 1)
def dnB (c : Cw) : Bool := decide (c.keeper = 4 ∨ c.keeper = 5)
def e1 (c : Cw) : Bool := decide (shZ c 0 = 1) != decide (c.reader = 3)
def e2 (c : Cw) : Bool := decide (shZ c 1 = 1) != decide (c.closer = 1)
def e3 (c : Cw) : Bool := decide (shZ c 2 = 1) != decide (c.keeper = 5)
def e4 (c : Cw) : Bool := stpB c && !decide (c.user = 1)
def e5 (c : Cw) : Bool := !stpB c && (decide (2 ≤ c.reader) && !decide (c.next = c.jobs))
def e6 (c : Cw) : Bool := !stpB c && (anyE c.hands && (!decide (c.reader = 3) || decide (0 < c.queue.length)))
def e7 (c : Cw) : Bool := decide (c.closer = 1) && !allE c.hands
def e8 (c : Cw) : Bool := !stpB c && (dnB c && (!decide (c.closer = 1) || decide (0 < c.results.length)))
def e9 (c : Cw) : Bool := !stpB c && (decide (c.user = 1) && (!decide (c.keeper = 5) || decide (0 < c.out.length)))
def eK (c : Cw) : Bool := if c.keeper = 0 then !dueIn c else (!decide (c.keeper = 2) || dueIn c)
def endsB (c : Cw) : Bool := !e1 c && !e2 c && !e3 c && !e4 c && !e5 c && !e6 c && !e7 c && !e8 c && !e9 c && eK c
theorem Ag.sh {P : Nat → Prop} {w W : World} {c : Cw} {A : A7} (h : Ag P w W c A) (hF : Form c) (i : Nat) (hi : i < 4) : ∃ b o, A.s = some ⟨b, o, none⟩ ∧ W.cell? ⟨w.heap.size, 16, none⟩ = some (.slice (some ⟨b, o, none⟩) 4 A.ps) ∧ W.cell? ⟨b, o + i, none⟩ = some (.int .i64 (shZ c i)) := by
 have hl := hF.shut
 obtain ⟨b, o, ha, e0⟩ := h.at_s i (by omega)
 have k := h.k16
 rw [ha, hl] at k
 refine ⟨b, o, ha, k, ?_⟩
 rw [e0]
 unfold shZ
 rw [List.getD_eq_getElem?_getD, List.getElem?_eq_getElem (by omega)]
 rfl
theorem Ag.ld {P : Nat → Prop} {w W : World} {c : Cw} {A : A7} (h : Ag P w W c A) : (Instr.loadAt 26 (.pointer (some ⟨w.heap.size, 0, none⟩))).run Tryz.prog W = .ok (.agg #[.int .i64 c.jobs, .int .i64 c.workers, .int .i64 c.window, .int .i64 c.next, .int .i64 c.reader, .slice A.q c.queue.length A.pq, .slice A.h c.hands.length A.ph, .int .i64 c.closer, .slice A.r c.results.length A.pr, .int .i64 c.keeper, .slice A.g c.ring.length A.pg, .int .i64 c.due, .slice A.o c.out.length A.po, .int .i64 c.user, .slice A.t c.got.length A.pt, .int .i64 c.room, .slice A.s c.shut.length A.ps, .int .i64 c.ops]) W := by
 obtain ⟨dd, hdu, hdr⟩ := rowWorld
 unfold Instr.loadAt
 simp only [Instr.sureAddr, Sem.run_bind, Sem.run_pure, Result.andThen_ok, run_loadVar_mid W w.heap.size 0 26 [.int .i64 c.jobs, .int .i64 c.workers, .int .i64 c.window, .int .i64 c.next, .int .i64 c.reader, .slice A.q c.queue.length A.pq, .slice A.h c.hands.length A.ph, .int .i64 c.closer, .slice A.r c.results.length A.pr, .int .i64 c.keeper, .slice A.g c.ring.length A.pg, .int .i64 c.due, .slice A.o c.out.length A.po, .int .i64 c.user, .slice A.t c.got.length A.pt, .int .i64 c.room, .slice A.s c.shut.length A.ps, .int .i64 c.ops] dd h.range hdu hdr info18]
theorem wpList_want {P : Program} {ops : Array Oper} {Q : Exit → Act → World → Prop} {a : Act} {w : World} {rest : List Oper} {o : Oper} (hw : Region.wanted o (yielded ops a.tmps) = true)
 (h : ∀ K : Act → World → Prop, (∀ a w, wpList P ops Q rest a w → K a w) → o.wp P a w K Q) : wpList P ops Q (o :: rest) a w :=
 wpList_step fun K hK => by simp only [hw, if_true]; exact h K hK
theorem l51Ends_any (c : Cw) (A : A7) (P : Nat → Prop) (w : World) (h : CwAt P w c (A.v c)) (hP : ∀ b, P b → b < w.heap.size) (hF : Form c) : Calls Tryz.prog 66 #[.agg #[.int .i64 c.jobs, .int .i64 c.workers, .int .i64 c.window, .int .i64 c.next, .int .i64 c.reader, .slice A.q c.queue.length A.pq, .slice A.h c.hands.length A.ph, .int .i64 c.closer, .slice A.r c.results.length A.pr, .int .i64 c.keeper, .slice A.g c.ring.length A.pg, .int .i64 c.due, .slice A.o c.out.length A.po, .int .i64 c.user, .slice A.t c.got.length A.pt, .int .i64 c.room, .slice A.s c.shut.length A.ps, .int .i64 c.ops]] w fun e w' => e = .returned (.bool (endsB c)) ∧ Below w.heap.size w w' := by
 have HS := xH (Ag.start h hP)
 have HANY := xH (fun W (hW : Ag P w W c A) => l51Any_any c A P W hW.at' hW.hand.2)
 have HALL := xH (fun W (hW : Ag P w W c A) => l51All_any c A P W hW.at' hW.hand.2)
 have HDUE := xH (fun W (hW : Ag P w W c A) => l51Due_any c A P W hW.at' hW.hand.2 hF)
 obtain ⟨s1, s2, s3, s4, s5, s6, s7, s8⟩ := hF.small
 have HFF := xH hF
 obtain ⟨dd, hdu, hdr⟩ := rowWorld
 clear h hP hF
 go_enter Tryz.func66, Tryz.ntmps66
 go_upto_region 1 with fail
 generalize w.alloc (.cells #[.int .i64 c.jobs, .int .i64 c.workers, .int .i64 c.window, .int .i64 c.next, .int .i64 c.reader, .slice A.q c.queue.length A.pq, .slice A.h c.hands.length A.ph, .int .i64 c.closer, .slice A.r c.results.length A.pr, .int .i64 c.keeper, .slice A.g c.ring.length A.pg, .int .i64 c.due, .slice A.o c.out.length A.po, .int .i64 c.user, .slice A.t c.got.length A.pt, .int .i64 c.room, .slice A.s c.shut.length A.ps, .int .i64 c.ops] 26) = W0 at HS ⊢
 go_cut [3] from 5 to 9 (fun x wx => x = .bool (stpB c) ∧ wx = W0)
 case first =>
  obtain ⟨b, o, -, kk, ee⟩ := (xU HS).sh (xU HFF) 3 (by omega)
  have HV := xH (show stpB c = (shZ c 3 == 1) from by unfold stpB; by_cases e : shZ c 3 = 1 <;> simp [e])
  generalize shZ c 3 = z at ee HV
  go_wp2_with fail
  go_meet
  case rel => exact ⟨by rw [xU HV], rfl⟩
 case rest =>
 obtain ⟨rfl, rfl⟩ := hcut
 go_upto_region 2 with fail
 go_cut [4] from 10 to 17 (fun x wx => x = .bool (dnB c) ∧ wx = wc)
 case first =>
  have k9 := (xU HS).k9
  by_cases h4 : c.keeper = 4
  · have q : (c.keeper == 4) = true := by simp [h4]
    have HV := xH (show dnB c = true from by simp [dnB, h4])
    clear h4
    go_wp2_with fail
    go_meet
    case rel => exact ⟨by rw [xU HV], rfl⟩
  · have q : (c.keeper == 4) = false := by simp [h4]
    have HV := xH (show dnB c = (c.keeper == 5) from by unfold dnB; by_cases e : c.keeper = 5 <;> simp [h4, e])
    clear h4
    go_wp2_with fail
    go_meet
    case rel => exact ⟨by rw [xU HV], rfl⟩
 case rest =>
 obtain ⟨rfl, rfl⟩ := hcut
 go_upto_region 3 with fail
 go_cut [18] from 19 to 27 (fun x wx => x = .bool (e1 c) ∧ Ag P w wx c A)
 case first =>
  obtain ⟨b, o, -, kk, ee⟩ := (xU HS).sh (xU HFF) 0 (by omega)
  rw [Nat.add_zero] at ee
  have kc := (xU HS).k4
  have HGN := xH (fun q => (xU HS).on (below_drewN _ q))
  have HV := xH (show e1 c = (decide (shZ c 0 = 1) != decide (c.reader = 3)) from rfl)
  generalize shZ c 0 = z at ee HV
  by_cases x1 : z = 1
  all_goals by_cases x2 : c.reader = 3
  · have q1 : (z == 1) = true := by simp [x1]
    have q2 : (c.reader == 3) = true := by simp [x2]
    have HV2 := xH (show e1 c = false from by rw [xU HV]; simp [x1, x2])
    clear x1 x2
    go_quiet (fail)
    go_wp2_with fail
    go_meet
    case rel => exact ⟨by rw [xU HV2], xU HGN _⟩
  · have q1 : (z == 1) = true := by simp [x1]
    have q2 : (c.reader == 3) = false := by simp [x2]
    have HV2 := xH (show e1 c = true from by rw [xU HV]; simp [x1, x2])
    clear x1 x2
    go_quiet (fail)
    go_wp2_with fail
    go_meet
    case rel => exact ⟨by rw [xU HV2], xU HGN _⟩
  · have q1 : (z == 1) = false := by simp [x1]
    have q2 : (c.reader == 3) = true := by simp [x2]
    have HV2 := xH (show e1 c = true from by rw [xU HV]; simp [x1, x2])
    clear x1 x2
    go_quiet (fail)
    go_wp2_with fail
    go_meet
    case rel => exact ⟨by rw [xU HV2], xU HGN _⟩
  · have q1 : (z == 1) = false := by simp [x1]
    have q2 : (c.reader == 3) = false := by simp [x2]
    have HV2 := xH (show e1 c = false from by rw [xU HV]; simp [x1, x2])
    clear x1 x2
    go_quiet (fail)
    go_wp2_with fail
    go_meet
    case rel => exact ⟨by rw [xU HV2], xU HGN _⟩
 case rest =>
 obtain ⟨rfl, hag⟩ := hcut
 have HS1 := xH hag
 clear hag HS
 by_cases hE : e1 c = true
 case pos =>
  have HNO := xH (show endsB c = false from by simp [endsB, hE])
  rw [hE]
  clear hE
  go_wp2_with fail
  go_ret
  exact ⟨by rw [xU HNO]; rfl, (xU HS1).bel⟩
 have hE' : e1 c = false := by simpa using hE
 have E1 := xH hE'
 rw [hE']
 clear hE hE'
 go_upto_region 4 with fail
 go_cut [18] from 28 to 36 (fun x wx => x = .bool (e2 c) ∧ Ag P w wx c A)
 case first =>
  obtain ⟨b, o, -, kk, ee⟩ := (xU HS1).sh (xU HFF) 1 (by omega)
  skip
  have kc := (xU HS1).k7
  have HGN := xH (fun q => (xU HS1).on (below_drewN _ q))
  have HV := xH (show e2 c = (decide (shZ c 1 = 1) != decide (c.closer = 1)) from rfl)
  generalize shZ c 1 = z at ee HV
  by_cases x1 : z = 1
  all_goals by_cases x2 : c.closer = 1
  · have q1 : (z == 1) = true := by simp [x1]
    have q2 : (c.closer == 1) = true := by simp [x2]
    have HV2 := xH (show e2 c = false from by rw [xU HV]; simp [x1, x2])
    clear x1 x2
    go_quiet (fail)
    go_wp2_with fail
    go_meet
    case rel => exact ⟨by rw [xU HV2], xU HGN _⟩
  · have q1 : (z == 1) = true := by simp [x1]
    have q2 : (c.closer == 1) = false := by simp [x2]
    have HV2 := xH (show e2 c = true from by rw [xU HV]; simp [x1, x2])
    clear x1 x2
    go_quiet (fail)
    go_wp2_with fail
    go_meet
    case rel => exact ⟨by rw [xU HV2], xU HGN _⟩
  · have q1 : (z == 1) = false := by simp [x1]
    have q2 : (c.closer == 1) = true := by simp [x2]
    have HV2 := xH (show e2 c = true from by rw [xU HV]; simp [x1, x2])
    clear x1 x2
    go_quiet (fail)
    go_wp2_with fail
    go_meet
    case rel => exact ⟨by rw [xU HV2], xU HGN _⟩
  · have q1 : (z == 1) = false := by simp [x1]
    have q2 : (c.closer == 1) = false := by simp [x2]
    have HV2 := xH (show e2 c = false from by rw [xU HV]; simp [x1, x2])
    clear x1 x2
    go_quiet (fail)
    go_wp2_with fail
    go_meet
    case rel => exact ⟨by rw [xU HV2], xU HGN _⟩
 case rest =>
 obtain ⟨rfl, hag⟩ := hcut
 have HS2 := xH hag
 clear hag HS1
 by_cases hE : e2 c = true
 case pos =>
  have HNO := xH (show endsB c = false from by simp [endsB, hE])
  rw [hE]
  clear hE
  go_wp2_with fail
  go_ret
  exact ⟨by rw [xU HNO]; rfl, (xU HS2).bel⟩
 have hE' : e2 c = false := by simpa using hE
 have E2 := xH hE'
 rw [hE']
 clear hE hE'
 go_upto_region 5 with fail
 go_cut [18] from 37 to 45 (fun x wx => x = .bool (e3 c) ∧ Ag P w wx c A)
 case first =>
  obtain ⟨b, o, -, kk, ee⟩ := (xU HS2).sh (xU HFF) 2 (by omega)
  skip
  have kc := (xU HS2).k9
  have HGN := xH (fun q => (xU HS2).on (below_drewN _ q))
  have HV := xH (show e3 c = (decide (shZ c 2 = 1) != decide (c.keeper = 5)) from rfl)
  generalize shZ c 2 = z at ee HV
  by_cases x1 : z = 1
  all_goals by_cases x2 : c.keeper = 5
  · have q1 : (z == 1) = true := by simp [x1]
    have q2 : (c.keeper == 5) = true := by simp [x2]
    have HV2 := xH (show e3 c = false from by rw [xU HV]; simp [x1, x2])
    clear x1 x2
    go_quiet (fail)
    go_wp2_with fail
    go_meet
    case rel => exact ⟨by rw [xU HV2], xU HGN _⟩
  · have q1 : (z == 1) = true := by simp [x1]
    have q2 : (c.keeper == 5) = false := by simp [x2]
    have HV2 := xH (show e3 c = true from by rw [xU HV]; simp [x1, x2])
    clear x1 x2
    go_quiet (fail)
    go_wp2_with fail
    go_meet
    case rel => exact ⟨by rw [xU HV2], xU HGN _⟩
  · have q1 : (z == 1) = false := by simp [x1]
    have q2 : (c.keeper == 5) = true := by simp [x2]
    have HV2 := xH (show e3 c = true from by rw [xU HV]; simp [x1, x2])
    clear x1 x2
    go_quiet (fail)
    go_wp2_with fail
    go_meet
    case rel => exact ⟨by rw [xU HV2], xU HGN _⟩
  · have q1 : (z == 1) = false := by simp [x1]
    have q2 : (c.keeper == 5) = false := by simp [x2]
    have HV2 := xH (show e3 c = false from by rw [xU HV]; simp [x1, x2])
    clear x1 x2
    go_quiet (fail)
    go_wp2_with fail
    go_meet
    case rel => exact ⟨by rw [xU HV2], xU HGN _⟩
 case rest =>
 obtain ⟨rfl, hag⟩ := hcut
 have HS3 := xH hag
 clear hag HS2
 by_cases hE : e3 c = true
 case pos =>
  have HNO := xH (show endsB c = false from by simp [endsB, hE])
  rw [hE]
  clear hE
  go_wp2_with fail
  go_ret
  exact ⟨by rw [xU HNO]; rfl, (xU HS3).bel⟩
 have hE' : e3 c = false := by simpa using hE
 have E3 := xH hE'
 rw [hE']
 clear hE hE'
 go_upto_region 7 with fail
 go_cut [3, 4, 46] from 47 to 52 (fun x3 x4 x wx => x3 = .bool (stpB c) ∧ x4 = .bool (dnB c) ∧ x = .bool (e4 c) ∧ Ag P w wx c A)
 case first =>
  have k13 := (xU HS3).k13
  generalize hbs : stpB c = bs
  generalize hbd : dnB c = bd
  have HBS := xH hbs; have HBD := xH hbd
  clear hbs hbd
  cases bs with
  | true =>
    have h0 := xU HBS
    have h0h := xH h0
    clear HBS
    by_cases h1 : c.user = 1
    · skip
      have q10 : (c.user != 1) = false := by simp [h1]
      have HV := xH (show e4 c = false from by simp [e4, h0, h1])
      clear h0 h1
      go_wp2_with fail
      go_meet
      case rel => exact ⟨by first | (rw [xU HBS]; done) | (rw [xU h0h]; done) | simp [xU HBS] | simp [xU h0h], by first | (rw [xU HBD]; done) | (rw [xU h1h]; done), by rw [xU HV], xU HS3⟩
    · skip
      have q10 : (c.user != 1) = true := by simp [h1]
      have HV := xH (show e4 c = true from by simp [e4, h0, h1])
      clear h0 h1
      go_wp2_with fail
      go_meet
      case rel => exact ⟨by first | (rw [xU HBS]; done) | (rw [xU h0h]; done) | simp [xU HBS] | simp [xU h0h], by first | (rw [xU HBD]; done) | (rw [xU h1h]; done), by rw [xU HV], xU HS3⟩
  | false =>
    have h0 := xU HBS
    have h0h := xH h0
    clear HBS
    have HV := xH (show e4 c = false from by simp [e4, h0])
    clear h0
    go_wp2_with fail
    go_meet
    case rel => exact ⟨by first | (rw [xU HBS]; done) | (rw [xU h0h]; done) | simp [xU HBS] | simp [xU h0h], by first | (rw [xU HBD]; done) | (rw [xU h1h]; done), by rw [xU HV], xU HS3⟩
 case rest =>
 obtain ⟨rfl, rfl, rfl, hag⟩ := hcut
 have HS4 := xH hag
 clear hag HS3
 by_cases hE : e4 c = true
 case pos =>
  have HNO := xH (show endsB c = false from by simp [endsB, hE])
  rw [hE]
  clear hE
  go_wp2_with fail
  go_ret
  exact ⟨by rw [xU HNO]; rfl, (xU HS4).bel⟩
 have hE' : e4 c = false := by simpa using hE
 have E4 := xH hE'
 rw [hE']
 clear hE hE'
 go_upto_region 9 with fail
 go_cut [3, 4, 53] from 54 to 67 (fun x3 x4 x wx => x3 = .bool (stpB c) ∧ x4 = .bool (dnB c) ∧ x = .bool (e5 c) ∧ Ag P w wx c A)
 case first =>
  have k0 := (xU HS4).k0
  have k3 := (xU HS4).k3
  have k4 := (xU HS4).k4
  generalize hbs : stpB c = bs
  generalize hbd : dnB c = bd
  have HBS := xH hbs; have HBD := xH hbd
  clear hbs hbd
  cases bs with
  | true =>
    have h0 := xU HBS
    have h0h := xH h0
    clear HBS
    have HV := xH (show e5 c = false from by simp [e5, h0])
    clear h0
    go_wp2_with fail
    go_meet
    case rel => exact ⟨by first | (rw [xU HBS]; done) | (rw [xU h0h]; done) | simp [xU HBS] | simp [xU h0h], by first | (rw [xU HBD]; done) | (rw [xU h1h]; done), by rw [xU HV], xU HS4⟩
  | false =>
    have h0 := xU HBS
    have h0h := xH h0
    clear HBS
    by_cases h1 : 2 ≤ c.reader
    · skip
      have q10 : decide (2 ≤ c.reader) = true := by simp [h1]
      by_cases h2 : c.next = c.jobs
      · skip
        have q20 : (c.next != c.jobs) = false := by simp [h2]
        have HV := xH (show e5 c = false from by simp [e5, h0, h1, h2])
        clear h0 h1 h2
        go_wp2_with fail
        go_meet
        case rel => exact ⟨by first | (rw [xU HBS]; done) | (rw [xU h0h]; done) | simp [xU HBS] | simp [xU h0h], by first | (rw [xU HBD]; done) | (rw [xU h1h]; done), by rw [xU HV], xU HS4⟩
      · skip
        have q20 : (c.next != c.jobs) = true := by simp [h2]
        have HV := xH (show e5 c = true from by simp [e5, h0, h1, h2])
        clear h0 h1 h2
        go_wp2_with fail
        go_meet
        case rel => exact ⟨by first | (rw [xU HBS]; done) | (rw [xU h0h]; done) | simp [xU HBS] | simp [xU h0h], by first | (rw [xU HBD]; done) | (rw [xU h1h]; done), by rw [xU HV], xU HS4⟩
    · skip
      have q10 : decide (2 ≤ c.reader) = false := by simp [h1]
      have HV := xH (show e5 c = false from by simp [e5, h0, h1])
      clear h0 h1
      go_wp2_with fail
      go_meet
      case rel => exact ⟨by first | (rw [xU HBS]; done) | (rw [xU h0h]; done) | simp [xU HBS] | simp [xU h0h], by first | (rw [xU HBD]; done) | (rw [xU h1h]; done), by rw [xU HV], xU HS4⟩
 case rest =>
 obtain ⟨rfl, rfl, rfl, hag⟩ := hcut
 have HS5 := xH hag
 clear hag HS4
 by_cases hE : e5 c = true
 case pos =>
  have HNO := xH (show endsB c = false from by simp [endsB, hE])
  rw [hE]
  clear hE
  go_wp2_with fail
  go_ret
  exact ⟨by rw [xU HNO]; rfl, (xU HS5).bel⟩
 have hE' : e5 c = false := by simpa using hE
 have E5 := xH hE'
 rw [hE']
 clear hE hE'
 go_upto_region 11 with fail
 go_cut [3, 4, 68] from 69 to 85 (fun x3 x4 x wx => x3 = .bool (stpB c) ∧ x4 = .bool (dnB c) ∧ x = .bool (e6 c) ∧ Ag P w wx c A)
 case first =>
  have k4 := (xU HS5).k4
  have k5 := (xU HS5).k5
  generalize hbs : stpB c = bs
  generalize hbd : dnB c = bd
  have HBS := xH hbs; have HBD := xH hbd
  clear hbs hbd
  cases bs with
  | true =>
    have h0 := xU HBS
    have h0h := xH h0
    clear HBS
    have HV := xH (show e6 c = false from by simp [e6, h0])
    clear h0
    go_wp2_with fail
    go_meet
    case rel => exact ⟨by first | (rw [xU HBS]; done) | (rw [xU h0h]; done) | simp [xU HBS] | simp [xU h0h], by first | (rw [xU HBD]; done) | (rw [xU h1h]; done), by rw [xU HV], xU HS5⟩
  | false =>
    have h0 := xU HBS
    have h0h := xH h0
    clear HBS
    cases h1 : anyE c.hands with
    | true =>
      by_cases h2 : c.reader = 3
      · skip
        have q20 : (c.reader != 3) = false := by simp [h2]
        by_cases h3 : 0 < c.queue.length
        · skip
          have q30 : decide (0 < c.queue.length) = true := by simp [h3]
          have q31 : decide ((0 : Int) < (c.queue.length : Int)) = true := by simp [h3]
          have HV := xH (show e6 c = true from by simp [e6, h0, h1, h2, h3])
          have HCC := xH (xU HANY _ (xU HS5))
          rw [h1] at HCC
          clear h0 h1 h2 h3
          refine wp_region_list ?_
          refine wpList_plain rfl (fun K hK => ?_); go_simp; refine hK _ _ ?_; clear hK K
          refine wpList_plain rfl (fun K hK => ?_); go_simp; refine hK _ _ ?_; clear hK K
          refine wpList_plain rfl (fun K hK => ?_); go_simp; refine hK _ _ ?_; clear hK K
          refine wpList_want (by kernel_rfl) (fun K hK => wp_load_mid _ _ rfl w.heap.size 0 rfl [.int .i64 c.jobs, .int .i64 c.workers, .int .i64 c.window, .int .i64 c.next, .int .i64 c.reader, .slice A.q c.queue.length A.pq, .slice A.h c.hands.length A.ph, .int .i64 c.closer, .slice A.r c.results.length A.pr, .int .i64 c.keeper, .slice A.g c.ring.length A.pg, .int .i64 c.due, .slice A.o c.out.length A.po, .int .i64 c.user, .slice A.t c.got.length A.pt, .int .i64 c.room, .slice A.s c.shut.length A.ps, .int .i64 c.ops] dd (xU HS5).range hdu hdr info18 (hK _ _ ?_))
          refine wpList_want (by kernel_rfl) (fun K hK => ?_)
          go_simp
          refine (xU HCC).mono ?_
          rintro e w9 ⟨rfl, hb9⟩
          refine hK _ _ ?_
          clear hK K
          have HN9 := xH ((xU HS5).on hb9)
          have j4 := (xU HN9).k4
          have j5 := (xU HN9).k5
          clear hb9
          go_wp2_with fail
          go_meet
          case rel => exact ⟨by first | (rw [xU HBS]; done) | (rw [xU h0h]; done) | simp [xU HBS] | simp [xU h0h], by first | (rw [xU HBD]; done) | (rw [xU h1h]; done), by rw [xU HV], xU HN9⟩
        · skip
          have q30 : decide (0 < c.queue.length) = false := by simp [h3]
          have q31 : decide ((0 : Int) < (c.queue.length : Int)) = false := by simp [h3]
          have HV := xH (show e6 c = false from by simp [e6, h0, h1, h2, h3])
          have HCC := xH (xU HANY _ (xU HS5))
          rw [h1] at HCC
          clear h0 h1 h2 h3
          refine wp_region_list ?_
          refine wpList_plain rfl (fun K hK => ?_); go_simp; refine hK _ _ ?_; clear hK K
          refine wpList_plain rfl (fun K hK => ?_); go_simp; refine hK _ _ ?_; clear hK K
          refine wpList_plain rfl (fun K hK => ?_); go_simp; refine hK _ _ ?_; clear hK K
          refine wpList_want (by kernel_rfl) (fun K hK => wp_load_mid _ _ rfl w.heap.size 0 rfl [.int .i64 c.jobs, .int .i64 c.workers, .int .i64 c.window, .int .i64 c.next, .int .i64 c.reader, .slice A.q c.queue.length A.pq, .slice A.h c.hands.length A.ph, .int .i64 c.closer, .slice A.r c.results.length A.pr, .int .i64 c.keeper, .slice A.g c.ring.length A.pg, .int .i64 c.due, .slice A.o c.out.length A.po, .int .i64 c.user, .slice A.t c.got.length A.pt, .int .i64 c.room, .slice A.s c.shut.length A.ps, .int .i64 c.ops] dd (xU HS5).range hdu hdr info18 (hK _ _ ?_))
          refine wpList_want (by kernel_rfl) (fun K hK => ?_)
          go_simp
          refine (xU HCC).mono ?_
          rintro e w9 ⟨rfl, hb9⟩
          refine hK _ _ ?_
          clear hK K
          have HN9 := xH ((xU HS5).on hb9)
          have j4 := (xU HN9).k4
          have j5 := (xU HN9).k5
          clear hb9
          go_wp2_with fail
          go_meet
          case rel => exact ⟨by first | (rw [xU HBS]; done) | (rw [xU h0h]; done) | simp [xU HBS] | simp [xU h0h], by first | (rw [xU HBD]; done) | (rw [xU h1h]; done), by rw [xU HV], xU HN9⟩
      · skip
        have q20 : (c.reader != 3) = true := by simp [h2]
        have HV := xH (show e6 c = true from by simp [e6, h0, h1, h2])
        have HCC := xH (xU HANY _ (xU HS5))
        rw [h1] at HCC
        clear h0 h1 h2
        refine wp_region_list ?_
        refine wpList_plain rfl (fun K hK => ?_); go_simp; refine hK _ _ ?_; clear hK K
        refine wpList_plain rfl (fun K hK => ?_); go_simp; refine hK _ _ ?_; clear hK K
        refine wpList_plain rfl (fun K hK => ?_); go_simp; refine hK _ _ ?_; clear hK K
        refine wpList_want (by kernel_rfl) (fun K hK => wp_load_mid _ _ rfl w.heap.size 0 rfl [.int .i64 c.jobs, .int .i64 c.workers, .int .i64 c.window, .int .i64 c.next, .int .i64 c.reader, .slice A.q c.queue.length A.pq, .slice A.h c.hands.length A.ph, .int .i64 c.closer, .slice A.r c.results.length A.pr, .int .i64 c.keeper, .slice A.g c.ring.length A.pg, .int .i64 c.due, .slice A.o c.out.length A.po, .int .i64 c.user, .slice A.t c.got.length A.pt, .int .i64 c.room, .slice A.s c.shut.length A.ps, .int .i64 c.ops] dd (xU HS5).range hdu hdr info18 (hK _ _ ?_))
        refine wpList_want (by kernel_rfl) (fun K hK => ?_)
        go_simp
        refine (xU HCC).mono ?_
        rintro e w9 ⟨rfl, hb9⟩
        refine hK _ _ ?_
        clear hK K
        have HN9 := xH ((xU HS5).on hb9)
        have j4 := (xU HN9).k4
        have j5 := (xU HN9).k5
        clear hb9
        go_wp2_with fail
        go_meet
        case rel => exact ⟨by first | (rw [xU HBS]; done) | (rw [xU h0h]; done) | simp [xU HBS] | simp [xU h0h], by first | (rw [xU HBD]; done) | (rw [xU h1h]; done), by rw [xU HV], xU HN9⟩
    | false =>
      have HV := xH (show e6 c = false from by simp [e6, h0, h1])
      have HCC := xH (xU HANY _ (xU HS5))
      rw [h1] at HCC
      clear h0 h1
      refine wp_region_list ?_
      refine wpList_plain rfl (fun K hK => ?_); go_simp; refine hK _ _ ?_; clear hK K
      refine wpList_plain rfl (fun K hK => ?_); go_simp; refine hK _ _ ?_; clear hK K
      refine wpList_plain rfl (fun K hK => ?_); go_simp; refine hK _ _ ?_; clear hK K
      refine wpList_want (by kernel_rfl) (fun K hK => wp_load_mid _ _ rfl w.heap.size 0 rfl [.int .i64 c.jobs, .int .i64 c.workers, .int .i64 c.window, .int .i64 c.next, .int .i64 c.reader, .slice A.q c.queue.length A.pq, .slice A.h c.hands.length A.ph, .int .i64 c.closer, .slice A.r c.results.length A.pr, .int .i64 c.keeper, .slice A.g c.ring.length A.pg, .int .i64 c.due, .slice A.o c.out.length A.po, .int .i64 c.user, .slice A.t c.got.length A.pt, .int .i64 c.room, .slice A.s c.shut.length A.ps, .int .i64 c.ops] dd (xU HS5).range hdu hdr info18 (hK _ _ ?_))
      refine wpList_want (by kernel_rfl) (fun K hK => ?_)
      go_simp
      refine (xU HCC).mono ?_
      rintro e w9 ⟨rfl, hb9⟩
      refine hK _ _ ?_
      clear hK K
      have HN9 := xH ((xU HS5).on hb9)
      have j4 := (xU HN9).k4
      have j5 := (xU HN9).k5
      clear hb9
      go_wp2_with fail
      go_meet
      case rel => exact ⟨by first | (rw [xU HBS]; done) | (rw [xU h0h]; done) | simp [xU HBS] | simp [xU h0h], by first | (rw [xU HBD]; done) | (rw [xU h1h]; done), by rw [xU HV], xU HN9⟩
 case rest =>
 obtain ⟨rfl, rfl, rfl, hag⟩ := hcut
 have HS6 := xH hag
 clear hag HS5
 by_cases hE : e6 c = true
 case pos =>
  have HNO := xH (show endsB c = false from by simp [endsB, hE])
  rw [hE]
  clear hE
  go_wp2_with fail
  go_ret
  exact ⟨by rw [xU HNO]; rfl, (xU HS6).bel⟩
 have hE' : e6 c = false := by simpa using hE
 have E6 := xH hE'
 rw [hE']
 clear hE hE'
 go_upto_region 13 with fail
 go_cut [3, 4, 86] from 87 to 94 (fun x3 x4 x wx => x3 = .bool (stpB c) ∧ x4 = .bool (dnB c) ∧ x = .bool (e7 c) ∧ Ag P w wx c A)
 case first =>
  have k7 := (xU HS6).k7
  generalize hbs : stpB c = bs
  generalize hbd : dnB c = bd
  have HBS := xH hbs; have HBD := xH hbd
  clear hbs hbd
  by_cases h0 : c.closer = 1
  · skip
    have q00 : (c.closer == 1) = true := by simp [h0]
    cases h1 : allE c.hands with
    | true =>
      have HV := xH (show e7 c = false from by simp [e7, h0, h1])
      have HCC := xH (xU HALL _ (xU HS6))
      rw [h1] at HCC
      clear h0 h1
      refine wp_region_list ?_
      refine wpList_plain rfl (fun K hK => ?_); go_simp; refine hK _ _ ?_; clear hK K
      refine wpList_plain rfl (fun K hK => ?_); go_simp; refine hK _ _ ?_; clear hK K
      refine wpList_plain rfl (fun K hK => ?_); go_simp; refine hK _ _ ?_; clear hK K
      refine wpList_plain rfl (fun K hK => ?_); go_simp; refine hK _ _ ?_; clear hK K
      refine wpList_want (by kernel_rfl) (fun K hK => wp_load_mid _ _ rfl w.heap.size 0 rfl [.int .i64 c.jobs, .int .i64 c.workers, .int .i64 c.window, .int .i64 c.next, .int .i64 c.reader, .slice A.q c.queue.length A.pq, .slice A.h c.hands.length A.ph, .int .i64 c.closer, .slice A.r c.results.length A.pr, .int .i64 c.keeper, .slice A.g c.ring.length A.pg, .int .i64 c.due, .slice A.o c.out.length A.po, .int .i64 c.user, .slice A.t c.got.length A.pt, .int .i64 c.room, .slice A.s c.shut.length A.ps, .int .i64 c.ops] dd (xU HS6).range hdu hdr info18 (hK _ _ ?_))
      refine wpList_want (by kernel_rfl) (fun K hK => ?_)
      go_simp
      refine (xU HCC).mono ?_
      rintro e w9 ⟨rfl, hb9⟩
      refine hK _ _ ?_
      clear hK K
      have HN9 := xH ((xU HS6).on hb9)
      have j7 := (xU HN9).k7
      clear hb9
      go_wp2_with fail
      go_meet
      case rel => exact ⟨by first | (rw [xU HBS]; done) | (rw [xU h0h]; done) | simp [xU HBS] | simp [xU h0h], by first | (rw [xU HBD]; done) | (rw [xU h1h]; done), by rw [xU HV], xU HN9⟩
    | false =>
      have HV := xH (show e7 c = true from by simp [e7, h0, h1])
      have HCC := xH (xU HALL _ (xU HS6))
      rw [h1] at HCC
      clear h0 h1
      refine wp_region_list ?_
      refine wpList_plain rfl (fun K hK => ?_); go_simp; refine hK _ _ ?_; clear hK K
      refine wpList_plain rfl (fun K hK => ?_); go_simp; refine hK _ _ ?_; clear hK K
      refine wpList_plain rfl (fun K hK => ?_); go_simp; refine hK _ _ ?_; clear hK K
      refine wpList_plain rfl (fun K hK => ?_); go_simp; refine hK _ _ ?_; clear hK K
      refine wpList_want (by kernel_rfl) (fun K hK => wp_load_mid _ _ rfl w.heap.size 0 rfl [.int .i64 c.jobs, .int .i64 c.workers, .int .i64 c.window, .int .i64 c.next, .int .i64 c.reader, .slice A.q c.queue.length A.pq, .slice A.h c.hands.length A.ph, .int .i64 c.closer, .slice A.r c.results.length A.pr, .int .i64 c.keeper, .slice A.g c.ring.length A.pg, .int .i64 c.due, .slice A.o c.out.length A.po, .int .i64 c.user, .slice A.t c.got.length A.pt, .int .i64 c.room, .slice A.s c.shut.length A.ps, .int .i64 c.ops] dd (xU HS6).range hdu hdr info18 (hK _ _ ?_))
      refine wpList_want (by kernel_rfl) (fun K hK => ?_)
      go_simp
      refine (xU HCC).mono ?_
      rintro e w9 ⟨rfl, hb9⟩
      refine hK _ _ ?_
      clear hK K
      have HN9 := xH ((xU HS6).on hb9)
      have j7 := (xU HN9).k7
      clear hb9
      go_wp2_with fail
      go_meet
      case rel => exact ⟨by first | (rw [xU HBS]; done) | (rw [xU h0h]; done) | simp [xU HBS] | simp [xU h0h], by first | (rw [xU HBD]; done) | (rw [xU h1h]; done), by rw [xU HV], xU HN9⟩
  · skip
    have q00 : (c.closer == 1) = false := by simp [h0]
    have HV := xH (show e7 c = false from by simp [e7, h0])
    clear h0
    go_wp2_with fail
    go_meet
    case rel => exact ⟨by first | (rw [xU HBS]; done) | (rw [xU h0h]; done) | simp [xU HBS] | simp [xU h0h], by first | (rw [xU HBD]; done) | (rw [xU h1h]; done), by rw [xU HV], xU HS6⟩
 case rest =>
 obtain ⟨rfl, rfl, rfl, hag⟩ := hcut
 have HS7 := xH hag
 clear hag HS6
 by_cases hE : e7 c = true
 case pos =>
  have HNO := xH (show endsB c = false from by simp [endsB, hE])
  rw [hE]
  clear hE
  go_wp2_with fail
  go_ret
  exact ⟨by rw [xU HNO]; rfl, (xU HS7).bel⟩
 have hE' : e7 c = false := by simpa using hE
 have E7 := xH hE'
 rw [hE']
 clear hE hE'
 go_upto_region 15 with fail
 go_cut [3, 4, 95] from 96 to 111 (fun x3 x4 x wx => x3 = .bool (stpB c) ∧ x4 = .bool (dnB c) ∧ x = .bool (e8 c) ∧ Ag P w wx c A)
 case first =>
  have k7 := (xU HS7).k7
  have k8 := (xU HS7).k8
  generalize hbs : stpB c = bs
  generalize hbd : dnB c = bd
  have HBS := xH hbs; have HBD := xH hbd
  clear hbs hbd
  cases bs with
  | true =>
    have h0 := xU HBS
    have h0h := xH h0
    clear HBS
    have HV := xH (show e8 c = false from by simp [e8, h0])
    clear h0
    go_wp2_with fail
    go_meet
    case rel => exact ⟨by first | (rw [xU HBS]; done) | (rw [xU h0h]; done) | simp [xU HBS] | simp [xU h0h], by first | (rw [xU HBD]; done) | (rw [xU h1h]; done), by rw [xU HV], xU HS7⟩
  | false =>
    have h0 := xU HBS
    have h0h := xH h0
    clear HBS
    cases bd with
    | true =>
      have h1 := xU HBD
      have h1h := xH h1
      clear HBD
      by_cases h2 : c.closer = 1
      · skip
        have q20 : (c.closer != 1) = false := by simp [h2]
        by_cases h3 : 0 < c.results.length
        · skip
          have q30 : decide (0 < c.results.length) = true := by simp [h3]
          have q31 : decide ((0 : Int) < (c.results.length : Int)) = true := by simp [h3]
          have HV := xH (show e8 c = true from by simp [e8, h0, h1, h2, h3])
          clear h0 h1 h2 h3
          go_wp2_with fail
          go_meet
          case rel => exact ⟨by first | (rw [xU HBS]; done) | (rw [xU h0h]; done) | simp [xU HBS] | simp [xU h0h], by first | (rw [xU HBD]; done) | (rw [xU h1h]; done), by rw [xU HV], xU HS7⟩
        · skip
          have q30 : decide (0 < c.results.length) = false := by simp [h3]
          have q31 : decide ((0 : Int) < (c.results.length : Int)) = false := by simp [h3]
          have HV := xH (show e8 c = false from by simp [e8, h0, h1, h2, h3])
          clear h0 h1 h2 h3
          go_wp2_with fail
          go_meet
          case rel => exact ⟨by first | (rw [xU HBS]; done) | (rw [xU h0h]; done) | simp [xU HBS] | simp [xU h0h], by first | (rw [xU HBD]; done) | (rw [xU h1h]; done), by rw [xU HV], xU HS7⟩
      · skip
        have q20 : (c.closer != 1) = true := by simp [h2]
        have HV := xH (show e8 c = true from by simp [e8, h0, h1, h2])
        clear h0 h1 h2
        go_wp2_with fail
        go_meet
        case rel => exact ⟨by first | (rw [xU HBS]; done) | (rw [xU h0h]; done) | simp [xU HBS] | simp [xU h0h], by first | (rw [xU HBD]; done) | (rw [xU h1h]; done), by rw [xU HV], xU HS7⟩
    | false =>
      have h1 := xU HBD
      have h1h := xH h1
      clear HBD
      have HV := xH (show e8 c = false from by simp [e8, h0, h1])
      clear h0 h1
      go_wp2_with fail
      go_meet
      case rel => exact ⟨by first | (rw [xU HBS]; done) | (rw [xU h0h]; done) | simp [xU HBS] | simp [xU h0h], by first | (rw [xU HBD]; done) | (rw [xU h1h]; done), by rw [xU HV], xU HS7⟩
 case rest =>
 obtain ⟨rfl, rfl, rfl, hag⟩ := hcut
 have HS8 := xH hag
 clear hag HS7
 by_cases hE : e8 c = true
 case pos =>
  have HNO := xH (show endsB c = false from by simp [endsB, hE])
  rw [hE]
  clear hE
  go_wp2_with fail
  go_ret
  exact ⟨by rw [xU HNO]; rfl, (xU HS8).bel⟩
 have hE' : e8 c = false := by simpa using hE
 have E8 := xH hE'
 rw [hE']
 clear hE hE'
 go_upto_region 17 with fail
 go_cut [3, 4, 112] from 113 to 130 (fun x3 x4 x wx => x3 = .bool (stpB c) ∧ x4 = .bool (dnB c) ∧ x = .bool (e9 c) ∧ Ag P w wx c A)
 case first =>
  have k9 := (xU HS8).k9
  have k12 := (xU HS8).k12
  have k13 := (xU HS8).k13
  generalize hbs : stpB c = bs
  generalize hbd : dnB c = bd
  have HBS := xH hbs; have HBD := xH hbd
  clear hbs hbd
  cases bs with
  | true =>
    have h0 := xU HBS
    have h0h := xH h0
    clear HBS
    have HV := xH (show e9 c = false from by simp [e9, h0])
    clear h0
    go_wp2_with fail
    go_meet
    case rel => exact ⟨by first | (rw [xU HBS]; done) | (rw [xU h0h]; done) | simp [xU HBS] | simp [xU h0h], by first | (rw [xU HBD]; done) | (rw [xU h1h]; done), by rw [xU HV], xU HS8⟩
  | false =>
    have h0 := xU HBS
    have h0h := xH h0
    clear HBS
    by_cases h1 : c.user = 1
    · skip
      have q10 : (c.user == 1) = true := by simp [h1]
      by_cases h2 : c.keeper = 5
      · skip
        have q20 : (c.keeper != 5) = false := by simp [h2]
        by_cases h3 : 0 < c.out.length
        · skip
          have q30 : decide (0 < c.out.length) = true := by simp [h3]
          have q31 : decide ((0 : Int) < (c.out.length : Int)) = true := by simp [h3]
          have HV := xH (show e9 c = true from by simp [e9, h0, h1, h2, h3])
          clear h0 h1 h2 h3
          go_wp2_with fail
          go_meet
          case rel => exact ⟨by first | (rw [xU HBS]; done) | (rw [xU h0h]; done) | simp [xU HBS] | simp [xU h0h], by first | (rw [xU HBD]; done) | (rw [xU h1h]; done), by rw [xU HV], xU HS8⟩
        · skip
          have q30 : decide (0 < c.out.length) = false := by simp [h3]
          have q31 : decide ((0 : Int) < (c.out.length : Int)) = false := by simp [h3]
          have HV := xH (show e9 c = false from by simp [e9, h0, h1, h2, h3])
          clear h0 h1 h2 h3
          go_wp2_with fail
          go_meet
          case rel => exact ⟨by first | (rw [xU HBS]; done) | (rw [xU h0h]; done) | simp [xU HBS] | simp [xU h0h], by first | (rw [xU HBD]; done) | (rw [xU h1h]; done), by rw [xU HV], xU HS8⟩
      · skip
        have q20 : (c.keeper != 5) = true := by simp [h2]
        have HV := xH (show e9 c = true from by simp [e9, h0, h1, h2])
        clear h0 h1 h2
        go_wp2_with fail
        go_meet
        case rel => exact ⟨by first | (rw [xU HBS]; done) | (rw [xU h0h]; done) | simp [xU HBS] | simp [xU h0h], by first | (rw [xU HBD]; done) | (rw [xU h1h]; done), by rw [xU HV], xU HS8⟩
    · skip
      have q10 : (c.user == 1) = false := by simp [h1]
      have HV := xH (show e9 c = false from by simp [e9, h0, h1])
      clear h0 h1
      go_wp2_with fail
      go_meet
      case rel => exact ⟨by first | (rw [xU HBS]; done) | (rw [xU h0h]; done) | simp [xU HBS] | simp [xU h0h], by first | (rw [xU HBD]; done) | (rw [xU h1h]; done), by rw [xU HV], xU HS8⟩
 case rest =>
 obtain ⟨rfl, rfl, rfl, hag⟩ := hcut
 have HS9 := xH hag
 clear hag HS8
 by_cases hE : e9 c = true
 case pos =>
  have HNO := xH (show endsB c = false from by simp [endsB, hE])
  rw [hE]
  clear hE
  go_wp2_with fail
  go_ret
  exact ⟨by rw [xU HNO]; rfl, (xU HS9).bel⟩
 have hE' : e9 c = false := by simpa using hE
 have E9 := xH hE'
 rw [hE']
 clear hE hE'
 go_upto_region 19 with fail
 by_cases hk0 : c.keeper = 0
 case pos =>
  have q0 : (c.keeper == 0) = true := by simp [hk0]
  have HV := xH (show endsB c = !dueIn c from by simp [endsB, xU E1, xU E2, xU E3, xU E4, xU E5, xU E6, xU E7, xU E8, xU E9, eK, hk0])
  clear hk0
  have HCC := xH (xU HDUE _ (xU HS9))
  have k9 := (xU HS9).k9
  go_upto_region 20 with fail
  refine wp_region_list ?_
  refine wpList_load_mid rfl _ _ rfl w.heap.size 0 rfl [.int .i64 c.jobs, .int .i64 c.workers, .int .i64 c.window, .int .i64 c.next, .int .i64 c.reader, .slice A.q c.queue.length A.pq, .slice A.h c.hands.length A.ph, .int .i64 c.closer, .slice A.r c.results.length A.pr, .int .i64 c.keeper, .slice A.g c.ring.length A.pg, .int .i64 c.due, .slice A.o c.out.length A.po, .int .i64 c.user, .slice A.t c.got.length A.pt, .int .i64 c.room, .slice A.s c.shut.length A.ps, .int .i64 c.ops] dd (xU HS9).range hdu hdr info18 ?_
  refine wpList_plain rfl (fun K hK => ?_)
  go_simp
  refine (xU HCC).mono ?_
  rintro e w9 ⟨rfl, hb9⟩
  refine hK _ _ ?_
  clear hK K
  have HN9 := xH ((xU HS9).on hb9)
  clear hb9
  go_wp2_with fail
  go_ret
  exact ⟨by rw [xU HV]; rfl, (xU HN9).bel⟩
 have q0 : (c.keeper == 0) = false := by simp [hk0]
 by_cases hk2 : c.keeper = 2
 case pos =>
  have q2 : (c.keeper != 2) = false := by simp [hk2]
  have HV := xH (show endsB c = dueIn c from by simp [endsB, xU E1, xU E2, xU E3, xU E4, xU E5, xU E6, xU E7, xU E8, xU E9, eK, hk2])
  clear hk0 hk2
  have HCC := xH (xU HDUE _ (xU HS9))
  have k9 := (xU HS9).k9
  go_upto_region 21 with fail
  refine wp_region_list ?_
  refine wpList_plain rfl (fun K hK => ?_); go_simp; refine hK _ _ ?_; clear hK K
  refine wpList_plain rfl (fun K hK => ?_); go_simp; refine hK _ _ ?_; clear hK K
  refine wpList_plain rfl (fun K hK => ?_); go_simp; refine hK _ _ ?_; clear hK K
  refine wpList_plain rfl (fun K hK => ?_); go_simp; refine hK _ _ ?_; clear hK K
  refine wpList_want (by kernel_rfl) (fun K hK => wp_load_mid _ _ rfl w.heap.size 0 rfl [.int .i64 c.jobs, .int .i64 c.workers, .int .i64 c.window, .int .i64 c.next, .int .i64 c.reader, .slice A.q c.queue.length A.pq, .slice A.h c.hands.length A.ph, .int .i64 c.closer, .slice A.r c.results.length A.pr, .int .i64 c.keeper, .slice A.g c.ring.length A.pg, .int .i64 c.due, .slice A.o c.out.length A.po, .int .i64 c.user, .slice A.t c.got.length A.pt, .int .i64 c.room, .slice A.s c.shut.length A.ps, .int .i64 c.ops] dd (xU HS9).range hdu hdr info18 (hK _ _ ?_))
  refine wpList_want (by kernel_rfl) (fun K hK => ?_)
  go_simp
  refine (xU HCC).mono ?_
  rintro e w9 ⟨rfl, hb9⟩
  refine hK _ _ ?_
  clear hK K
  have HN9 := xH ((xU HS9).on hb9)
  clear hb9
  go_wp2_with fail
  go_ret
  exact ⟨by rw [xU HV]; rfl, (xU HN9).bel⟩
 have q2 : (c.keeper != 2) = true := by simp [hk2]
 have HV := xH (show endsB c = true from by simp [endsB, xU E1, xU E2, xU E3, xU E4, xU E5, xU E6, xU E7, xU E8, xU E9, eK, hk0, hk2])
 clear hk0 hk2
 have k9 := (xU HS9).k9
 go_wp2_with fail
 go_ret
 exact ⟨by rw [xU HV]; rfl, (xU HS9).bel⟩
end Go.Proofs.YtibgjcejddpldaaGreat
