/- A part. -/
import Derived.Test.YtibgjcejddpldaaGreatPart17
namespace Go.Proofs.YtibgjcejddpldaaGreat
open Go Go.RowKit
set_option maxRecDepth 100000
set_option maxHeartbeats 3200000
def bcs (b : Bool) : List Value := [.bool b]
def BAt (P : Nat → Prop) (w : World) (v : Value) (bs : List Bool) : Prop := FlatAt P w v 1 (bs.map bcs)
def BsEnd (w w' : World) (e : Ending) (bs : List Bool) : Prop := ∃ a cap, e = .returned (.slice a bs.length cap) ∧ BAt (New w w') w' (.slice a bs.length cap) bs ∧ Below w.heap.size w w'
theorem bs_new {w W : World} (hb : Below w.heap.size w W) (bs : List Bool) (hl : bs.length ≤ 100) : BsEnd w (W.alloc (.cells (bs.map Value.bool).toArray 4)) (.returned (.slice (some ⟨W.heap.size, 0, none⟩) bs.length bs.length)) bs := by
 have hr := World.rowIs_alloc W (bs.map Value.bool).toArray 4 (fun i => ((bs.map Value.bool).toArray)[i]?.getD undef) (fun i hi => by simp at hi; simp [hi])
 refine ⟨_, _, rfl, ⟨_, _, by rw [List.length_map], by rw [List.length_map]; omega, fun i hi => ⟨W.heap.size, 0, rfl, ⟨hb.size, by simp⟩, fun j hj => ?_⟩⟩, hb.alloc hb.size _⟩
 obtain rfl : j = 0 := by omega
 rw [List.length_map] at hi
 rw [Nat.zero_add, Nat.add_zero, Nat.mul_one, hr.cell (by simpa using hi)]
 simp [hi, bcs]
def wayR (c : Cw) : List Bool := if c.reader = 0 then (if c.next = c.jobs then [false, false, true] else [decide (0 < c.room), stpB c, false]) else if c.reader = 1 then [decide ((c.queue.length : Int) < c.workers), stpB c] else if c.reader = 2 then [true] else []
def wayW (c : Cw) (h : Hd) : List Bool := if h.state = 0 then [decide (0 < c.queue.length), stpB c, decide (c.queue.length = 0) && decide (shZ c 0 = 1)] else if h.state = 1 then [true] else if h.state = 2 then [decide ((c.results.length : Int) < c.workers), stpB c] else []
def wayC (c : Cw) : List Bool := [decide (c.closer = 0) && allE c.hands]
def wayK (c : Cw) : List Bool := if c.keeper = 0 then [decide (0 < c.results.length), stpB c, decide (c.results.length = 0) && decide (shZ c 1 = 1)] else if c.keeper = 2 then [decide (c.out.length = 0), stpB c] else if c.keeper = 5 then [] else [true]
def wayU (c : Cw) : List Bool := if c.user = 1 then [] else [decide (0 < c.out.length), decide (c.out.length = 0) && decide (shZ c 2 = 1)]
def ways (c : Cw) (who : Nat) : List Bool := if who = 0 then wayR c else if who ≤ c.hands.length then wayW c (c.hands.getD (who - 1) ⟨0, 0⟩) else if who = c.hands.length + 1 then wayC c else if who = c.hands.length + 2 then wayK c else wayU c
def mvs (who : Nat) : Nat → List Bool → List (Nat × Nat)
 | _, [] => []
 | i, b :: bs => (if b then [(who, i)] else []) ++ mvs who (i + 1) bs

theorem l52Reader_any (c : Cw) (A : A7) (P : Nat → Prop) (w : World) (h : CwAt P w c (A.v c)) (hP : ∀ b, P b → b < w.heap.size) (hF : Form c) : Calls Tryz.prog 67 #[.agg #[.int .i64 c.jobs, .int .i64 c.workers, .int .i64 c.window, .int .i64 c.next, .int .i64 c.reader, .slice A.q c.queue.length A.pq, .slice A.h c.hands.length A.ph, .int .i64 c.closer, .slice A.r c.results.length A.pr, .int .i64 c.keeper, .slice A.g c.ring.length A.pg, .int .i64 c.due, .slice A.o c.out.length A.po, .int .i64 c.user, .slice A.t c.got.length A.pt, .int .i64 c.room, .slice A.s c.shut.length A.ps, .int .i64 c.ops]] w fun e w' => BsEnd w w' e (wayR c) := by
 have HS := xH (Ag.start h hP)
 obtain ⟨b, o, -, k16, ks⟩ := (xU HS).sh hF 3 (by omega)
 have k4 := (xU HS).k4; have k3 := (xU HS).k3; have k0 := (xU HS).k0; have k15 := (xU HS).k15; have k5 := (xU HS).k5; have k1 := (xU HS).k1
 have hql : c.queue.length ≤ 9223372036854775807 := by have := hF.queue; have := hF.st.2.1.2; omega
 clear h hP hF
 have HB := xH (xU HS).bel
 clear HS
 go_enter Tryz.func67, Tryz.ntmps67
 go_upto_region 1 with fail
 generalize w.alloc (.cells #[.int .i64 c.jobs, .int .i64 c.workers, .int .i64 c.window, .int .i64 c.next, .int .i64 c.reader, .slice A.q c.queue.length A.pq, .slice A.h c.hands.length A.ph, .int .i64 c.closer, .slice A.r c.results.length A.pr, .int .i64 c.keeper, .slice A.g c.ring.length A.pg, .int .i64 c.due, .slice A.o c.out.length A.po, .int .i64 c.user, .slice A.t c.got.length A.pt, .int .i64 c.room, .slice A.s c.shut.length A.ps, .int .i64 c.ops] 26) = W0 at HB k16 ks k4 k3 k0 k15 k5 k1 ⊢
 by_cases r0 : c.reader = 0
 · by_cases hn : c.next = c.jobs
   · have HV := xH (show wayR c = [false, false, true] from by unfold wayR; rw [if_pos r0, if_pos hn])
     rw [r0] at k4
     have hn' : (c.next == c.jobs) = true := by simp [hn]
     clear hn r0
     generalize c.next = x1 at k3 hn'
     generalize c.jobs = x2 at k0 hn'
     go_wp2_with fail
     go_ret
     rw [xU HV]
     exact bs_new (xU HB) [false, false, true] (by simp)
   · have HV := xH (show wayR c = [decide (0 < c.room), (shZ c 3 == 1), false] from by unfold wayR; rw [if_pos r0, if_neg hn]; rfl)
     rw [r0] at k4
     have hn' : (c.next == c.jobs) = false := by simp [hn]
     clear hn r0
     generalize shZ c 3 = x3 at ks HV
     generalize c.next = x1 at k3 hn'
     generalize c.jobs = x2 at k0 hn'
     generalize c.room = x4 at k15 HV
     go_wp2_with fail
     go_ret
     rw [xU HV]
     exact bs_new (xU HB) [decide (0 < x4), (x3 == 1), false] (by simp)
 have z0 : (c.reader == 0) = false := by simp [r0]
 by_cases r1 : c.reader = 1
 · have HV := xH (show wayR c = [decide ((c.queue.length : Int) < c.workers), (shZ c 3 == 1)] from by unfold wayR; rw [if_neg r0, if_pos r1]; rfl)
   rw [r1] at k4
   clear r1 z0 r0
   generalize shZ c 3 = x3 at ks HV
   generalize c.queue.length = x5 at k5 hql HV
   generalize c.workers = x6 at k1 HV
   go_wp2_with fail
   go_ret
   rw [xU HV]
   exact bs_new (xU HB) [decide ((x5 : Int) < x6), (x3 == 1)] (by simp)
 have z1 : (c.reader == 1) = false := by simp [r1]
 by_cases r2 : c.reader = 2
 · have HV := xH (show wayR c = [true] from by unfold wayR; rw [if_neg r0, if_neg r1, if_pos r2])
   rw [r2] at k4
   clear r2 z0 z1 r0 r1
   go_wp2_with fail
   go_ret
   rw [xU HV]
   exact bs_new (xU HB) [true] (by simp)
 · have HV := xH (show wayR c = [] from by unfold wayR; rw [if_neg r0, if_neg r1, if_neg r2])
   have z2 : (c.reader == 2) = false := by simp [r2]
   clear r2 r0 r1
   generalize c.reader = x7 at k4 z0 z1 z2
   go_wp2_with fail
   go_ret
   rw [xU HV]
   exact bs_new (xU HB) [] (by simp)

theorem Ag.shA {P : Nat → Prop} {w W : World} {c : Cw} {A : A7} (h : Ag P w W c A) (hF : Form c) {b o : Nat} (hA : A.s = some ⟨b, o, none⟩) (i : Nat) (hi : i < 4) : W.cell? ⟨w.heap.size, 16, none⟩ = some (.slice (some ⟨b, o, none⟩) 4 A.ps) ∧ W.cell? ⟨b, o + i, none⟩ = some (.int .i64 (shZ c i)) := by
 obtain ⟨b', o', e, h1, h2⟩ := h.sh hF i hi
 rw [hA] at e
 simp only [Option.some.injEq, Addr.mk.injEq, and_true] at e
 obtain ⟨rfl, rfl⟩ := e
 exact ⟨h1, h2⟩
noncomputable def cmkOps : Array Oper := fops Tryz.f70 4
theorem cmk_neat : Region.noSelect cmkOps = true ∧ neat cmkOps = true := ⟨by kernel_rfl, by kernel_rfl⟩
theorem cmk_0 (c : Cw) (A : A7) (P : Nat → Prop) (w : World) (hF : Form c) (b o : Nat) (hA : A.s = some ⟨b, o, none⟩) (hn : c.results.length = 0) (st : Bool) (W0 : World) {l : List Value} (Q : Exit → Act → World → Prop) (hQ : ∀ c a d v w, Q (.panic c) (Act.put a d v) w → Q (.panic c) a w) (hS : Ag P w W0.drew c A) (hl : lookL [(1, .pointer (some ⟨w.heap.size, 0, none⟩)), (3, .bool st)] l = (42, [.pointer (some ⟨w.heap.size, 0, none⟩), .bool st]))
 (hend : ∀ v s W', BsEnd w W' (.returned s) [(decide (0 < ((0 : Nat) : Int))), st, ((shZ c 1) == 1)] → Q .normal ⟨(frL v 42 [(1, .pointer (some ⟨w.heap.size, 0, none⟩)), (2, s), (3, .bool st)]).toArray, []⟩ W') : (Code.region 4 cmkOps true).wp Tryz.prog Q ⟨l.toArray, []⟩ W0 := by
 obtain ⟨v, rfl⟩ := look_fr hl
 have hq : NtQ cmkOps Q := ⟨cmk_neat, hQ⟩
 refine T_start (S := fun W => Ag P w W c A) (by kernel_rfl) hS ?_
 clear hl hQ hS
 generalize W0.drew = W
 refine T_a hq (List.range 18) (fun w h => .cons (ld25 w _ _ (by have := h.k8; rw [hn] at this; exact this)) (.cons (ld25 w _ _ (by have := h.k8; rw [hn] at this; exact this)) (.cons (ld25 w _ _ (h.shA hF hA 1 (by omega)).1) (.cons (ld3 w _ _ (h.shA hF hA 1 (by omega)).2) Lds.nil)))) (by kernel_rfl) ?_
 refine T_one 16 (by kernel_rfl) fun h => O_val (w' := W.alloc (.cells #[.bool (decide (0 < ((0 : Nat) : Int))), .bool st, .bool ((shZ c 1) == 1)] 4)) (some 29) (.slice (some ⟨W.heap.size, 0, none⟩) 3 3) (by kernel_rfl) (by kernel_rfl) (h.on ((Below.refl _ W).alloc (Nat.le_refl _) _)) ?_
 have hbs := bs_new h.bel [(decide (0 < ((0 : Nat) : Int))), st, ((shZ c 1) == 1)] (by simp)
 refine T_z hq (List.range 18) (by kernel_rfl) ?_
 exact T_end 42 [(1, .pointer (some ⟨w.heap.size, 0, none⟩)), (2, .slice (some ⟨W.heap.size, 0, none⟩) 3 3), (3, .bool st)] (by kernel_rfl) (by kernel_rfl) fun _ v => hend v _ _ hbs
theorem cmk_1 (c : Cw) (A : A7) (P : Nat → Prop) (w : World) (n : Nat) (hn : c.results.length = n + 1) (st : Bool) (W0 : World) {l : List Value} (Q : Exit → Act → World → Prop) (hQ : ∀ c a d v w, Q (.panic c) (Act.put a d v) w → Q (.panic c) a w) (hS : Ag P w W0.drew c A) (hl : lookL [(1, .pointer (some ⟨w.heap.size, 0, none⟩)), (3, .bool st)] l = (42, [.pointer (some ⟨w.heap.size, 0, none⟩), .bool st]))
 (hend : ∀ v s W', BsEnd w W' (.returned s) [(decide (0 < (((n + 1) : Nat) : Int))), st, false] → Q .normal ⟨(frL v 42 [(1, .pointer (some ⟨w.heap.size, 0, none⟩)), (2, s), (3, .bool st)]).toArray, []⟩ W') : (Code.region 4 cmkOps true).wp Tryz.prog Q ⟨l.toArray, []⟩ W0 := by
 obtain ⟨v, rfl⟩ := look_fr hl
 have hq : NtQ cmkOps Q := ⟨cmk_neat, hQ⟩
 refine T_start (S := fun W => Ag P w W c A) (by kernel_rfl) hS ?_
 clear hl hQ hS
 generalize W0.drew = W
 refine T_a hq (List.range 18) (fun w h => .cons (ld25 w _ _ (by have := h.k8; rw [hn] at this; exact this)) (.cons (ld25 w _ _ (by have := h.k8; rw [hn] at this; exact this)) Lds.nil)) (by kernel_rfl) ?_
 refine T_one 16 (by kernel_rfl) fun h => O_val (w' := W.alloc (.cells #[.bool (decide (0 < (((n + 1) : Nat) : Int))), .bool st, .bool false] 4)) (some 29) (.slice (some ⟨W.heap.size, 0, none⟩) 3 3) (by kernel_rfl) (by kernel_rfl) (h.on ((Below.refl _ W).alloc (Nat.le_refl _) _)) ?_
 have hbs := bs_new h.bel [(decide (0 < (((n + 1) : Nat) : Int))), st, false] (by simp)
 refine T_z hq (List.range 18) (by kernel_rfl) ?_
 exact T_end 42 [(1, .pointer (some ⟨w.heap.size, 0, none⟩)), (2, .slice (some ⟨W.heap.size, 0, none⟩) 3 3), (3, .bool st)] (by kernel_rfl) (by kernel_rfl) fun _ v => hend v _ _ hbs
noncomputable def cmwOps : Array Oper := fops Tryz.f68 4
theorem cmw_neat : Region.noSelect cmwOps = true ∧ neat cmwOps = true := ⟨by kernel_rfl, by kernel_rfl⟩
theorem cmw_0 (c : Cw) (A : A7) (P : Nat → Prop) (w : World) (hF : Form c) (b o : Nat) (hA : A.s = some ⟨b, o, none⟩) (hn : c.queue.length = 0) (st : Bool) (W0 : World) {l : List Value} (Q : Exit → Act → World → Prop) (hQ : ∀ c a d v w, Q (.panic c) (Act.put a d v) w → Q (.panic c) a w) (hS : Ag P w W0.drew c A) (hl : lookL [(2, .pointer (some ⟨w.heap.size, 0, none⟩)), (5, .bool st)] l = (46, [.pointer (some ⟨w.heap.size, 0, none⟩), .bool st]))
 (hend : ∀ v s W', BsEnd w W' (.returned s) [(decide (0 < ((0 : Nat) : Int))), st, ((shZ c 0) == 1)] → Q .normal ⟨(frL v 46 [(2, .pointer (some ⟨w.heap.size, 0, none⟩)), (4, s), (5, .bool st)]).toArray, []⟩ W') : (Code.region 4 cmwOps true).wp Tryz.prog Q ⟨l.toArray, []⟩ W0 := by
 obtain ⟨v, rfl⟩ := look_fr hl
 have hq : NtQ cmwOps Q := ⟨cmw_neat, hQ⟩
 refine T_start (S := fun W => Ag P w W c A) (by kernel_rfl) hS ?_
 clear hl hQ hS
 generalize W0.drew = W
 refine T_a hq (List.range 18) (fun w h => .cons (ld25 w _ _ (by have := h.k5; rw [hn] at this; exact this)) (.cons (ld25 w _ _ (by have := h.k5; rw [hn] at this; exact this)) (.cons (ld25 w _ _ (h.shA hF hA 0 (by omega)).1) (.cons (ld3 w _ _ (h.shA hF hA 0 (by omega)).2) Lds.nil)))) (by kernel_rfl) ?_
 refine T_one 16 (by kernel_rfl) fun h => O_val (w' := W.alloc (.cells #[.bool (decide (0 < ((0 : Nat) : Int))), .bool st, .bool ((shZ c 0) == 1)] 4)) (some 31) (.slice (some ⟨W.heap.size, 0, none⟩) 3 3) (by kernel_rfl) (by kernel_rfl) (h.on ((Below.refl _ W).alloc (Nat.le_refl _) _)) ?_
 have hbs := bs_new h.bel [(decide (0 < ((0 : Nat) : Int))), st, ((shZ c 0) == 1)] (by simp)
 refine T_z hq (List.range 18) (by kernel_rfl) ?_
 exact T_end 46 [(2, .pointer (some ⟨w.heap.size, 0, none⟩)), (4, .slice (some ⟨W.heap.size, 0, none⟩) 3 3), (5, .bool st)] (by kernel_rfl) (by kernel_rfl) fun _ v => hend v _ _ hbs
theorem cmw_1 (c : Cw) (A : A7) (P : Nat → Prop) (w : World) (n : Nat) (hn : c.queue.length = n + 1) (st : Bool) (W0 : World) {l : List Value} (Q : Exit → Act → World → Prop) (hQ : ∀ c a d v w, Q (.panic c) (Act.put a d v) w → Q (.panic c) a w) (hS : Ag P w W0.drew c A) (hl : lookL [(2, .pointer (some ⟨w.heap.size, 0, none⟩)), (5, .bool st)] l = (46, [.pointer (some ⟨w.heap.size, 0, none⟩), .bool st]))
 (hend : ∀ v s W', BsEnd w W' (.returned s) [(decide (0 < (((n + 1) : Nat) : Int))), st, false] → Q .normal ⟨(frL v 46 [(2, .pointer (some ⟨w.heap.size, 0, none⟩)), (4, s), (5, .bool st)]).toArray, []⟩ W') : (Code.region 4 cmwOps true).wp Tryz.prog Q ⟨l.toArray, []⟩ W0 := by
 obtain ⟨v, rfl⟩ := look_fr hl
 have hq : NtQ cmwOps Q := ⟨cmw_neat, hQ⟩
 refine T_start (S := fun W => Ag P w W c A) (by kernel_rfl) hS ?_
 clear hl hQ hS
 generalize W0.drew = W
 refine T_a hq (List.range 18) (fun w h => .cons (ld25 w _ _ (by have := h.k5; rw [hn] at this; exact this)) (.cons (ld25 w _ _ (by have := h.k5; rw [hn] at this; exact this)) Lds.nil)) (by kernel_rfl) ?_
 refine T_one 16 (by kernel_rfl) fun h => O_val (w' := W.alloc (.cells #[.bool (decide (0 < (((n + 1) : Nat) : Int))), .bool st, .bool false] 4)) (some 31) (.slice (some ⟨W.heap.size, 0, none⟩) 3 3) (by kernel_rfl) (by kernel_rfl) (h.on ((Below.refl _ W).alloc (Nat.le_refl _) _)) ?_
 have hbs := bs_new h.bel [(decide (0 < (((n + 1) : Nat) : Int))), st, false] (by simp)
 refine T_z hq (List.range 18) (by kernel_rfl) ?_
 exact T_end 46 [(2, .pointer (some ⟨w.heap.size, 0, none⟩)), (4, .slice (some ⟨W.heap.size, 0, none⟩) 3 3), (5, .bool st)] (by kernel_rfl) (by kernel_rfl) fun _ v => hend v _ _ hbs
noncomputable def cmuOps : Array Oper := fops Tryz.f37 11
theorem cmu_neat : Region.noSelect cmuOps = true ∧ neat cmuOps = true := ⟨by kernel_rfl, by kernel_rfl⟩
theorem cmu_0 (c : Cw) (A : A7) (P : Nat → Prop) (w : World) (hF : Form c) (b o : Nat) (hA : A.s = some ⟨b, o, none⟩) (hn : c.out.length = 0) (W0 : World) {l : List Value} (Q : Exit → Act → World → Prop) (hQ : ∀ c a d v w, Q (.panic c) (Act.put a d v) w → Q (.panic c) a w) (hS : Ag P w W0.drew c A) (hl : lookL [(2, .pointer (some ⟨w.heap.size, 0, none⟩))] l = (65, [.pointer (some ⟨w.heap.size, 0, none⟩)]))
 (hend : ∀ v s W', BsEnd w W' (.returned s) [(decide (0 < ((0 : Nat) : Int))), ((shZ c 2) == 1)] → Q .normal ⟨(frL v 65 [(2, .pointer (some ⟨w.heap.size, 0, none⟩)), (4, s)]).toArray, []⟩ W') : (Code.region 11 cmuOps true).wp Tryz.prog Q ⟨l.toArray, []⟩ W0 := by
 obtain ⟨v, rfl⟩ := look_fr hl
 have hq : NtQ cmuOps Q := ⟨cmu_neat, hQ⟩
 refine T_start (S := fun W => Ag P w W c A) (by kernel_rfl) hS ?_
 clear hl hQ hS
 generalize W0.drew = W
 refine T_a hq (List.range 17) (fun w h => .cons (ld25 w _ _ (by have := h.k12; rw [hn] at this; exact this)) (.cons (ld25 w _ _ (by have := h.k12; rw [hn] at this; exact this)) (.cons (ld25 w _ _ (h.shA hF hA 2 (by omega)).1) (.cons (ld3 w _ _ (h.shA hF hA 2 (by omega)).2) Lds.nil)))) (by kernel_rfl) ?_
 refine T_one 15 (by kernel_rfl) fun h => O_val (w' := W.alloc (.cells #[.bool (decide (0 < ((0 : Nat) : Int))), .bool ((shZ c 2) == 1)] 4)) (some 64) (.slice (some ⟨W.heap.size, 0, none⟩) 2 2) (by kernel_rfl) (by kernel_rfl) (h.on ((Below.refl _ W).alloc (Nat.le_refl _) _)) ?_
 have hbs := bs_new h.bel [(decide (0 < ((0 : Nat) : Int))), ((shZ c 2) == 1)] (by simp)
 refine T_z hq (List.range 17) (by kernel_rfl) ?_
 exact T_end 65 [(2, .pointer (some ⟨w.heap.size, 0, none⟩)), (4, .slice (some ⟨W.heap.size, 0, none⟩) 2 2)] (by kernel_rfl) (by kernel_rfl) fun _ v => hend v _ _ hbs
theorem cmu_1 (c : Cw) (A : A7) (P : Nat → Prop) (w : World) (n : Nat) (hn : c.out.length = n + 1) (W0 : World) {l : List Value} (Q : Exit → Act → World → Prop) (hQ : ∀ c a d v w, Q (.panic c) (Act.put a d v) w → Q (.panic c) a w) (hS : Ag P w W0.drew c A) (hl : lookL [(2, .pointer (some ⟨w.heap.size, 0, none⟩))] l = (65, [.pointer (some ⟨w.heap.size, 0, none⟩)]))
 (hend : ∀ v s W', BsEnd w W' (.returned s) [(decide (0 < (((n + 1) : Nat) : Int))), false] → Q .normal ⟨(frL v 65 [(2, .pointer (some ⟨w.heap.size, 0, none⟩)), (4, s)]).toArray, []⟩ W') : (Code.region 11 cmuOps true).wp Tryz.prog Q ⟨l.toArray, []⟩ W0 := by
 obtain ⟨v, rfl⟩ := look_fr hl
 have hq : NtQ cmuOps Q := ⟨cmu_neat, hQ⟩
 refine T_start (S := fun W => Ag P w W c A) (by kernel_rfl) hS ?_
 clear hl hQ hS
 generalize W0.drew = W
 refine T_a hq (List.range 17) (fun w h => .cons (ld25 w _ _ (by have := h.k12; rw [hn] at this; exact this)) (.cons (ld25 w _ _ (by have := h.k12; rw [hn] at this; exact this)) Lds.nil)) (by kernel_rfl) ?_
 refine T_one 15 (by kernel_rfl) fun h => O_val (w' := W.alloc (.cells #[.bool (decide (0 < (((n + 1) : Nat) : Int))), .bool false] 4)) (some 64) (.slice (some ⟨W.heap.size, 0, none⟩) 2 2) (by kernel_rfl) (by kernel_rfl) (h.on ((Below.refl _ W).alloc (Nat.le_refl _) _)) ?_
 have hbs := bs_new h.bel [(decide (0 < (((n + 1) : Nat) : Int))), false] (by simp)
 refine T_z hq (List.range 17) (by kernel_rfl) ?_
 exact T_end 65 [(2, .pointer (some ⟨w.heap.size, 0, none⟩)), (4, .slice (some ⟨W.heap.size, 0, none⟩) 2 2)] (by kernel_rfl) (by kernel_rfl) fun _ v => hend v _ _ hbs

theorem beq0 (n : Nat) : ((n : Int) == 0) = decide (n = 0) := by by_cases h : n = 0 <;> simp [h]
theorem three0 (s t : Bool) : [decide (0 < 0), s, decide (0 = 0) && t] = [decide ((0 : Int) < ((0 : Nat) : Int)), s, t] := rfl
theorem three1 (n : Nat) (s t : Bool) : [decide (0 < n + 1), s, decide (n + 1 = 0) && t] = [decide ((0 : Int) < ((n + 1 : Nat) : Int)), s, false] := by
 rw [show decide (0 < n + 1) = true from decide_eq_true (by omega), show decide (n + 1 = 0) = false from decide_eq_false (by omega), show decide ((0 : Int) < ((n + 1 : Nat) : Int)) = true from decide_eq_true (by omega)]
 rfl
theorem l52Keeper_any (c : Cw) (A : A7) (P : Nat → Prop) (w : World) (h : CwAt P w c (A.v c)) (hP : ∀ b, P b → b < w.heap.size) (hF : Form c) : Calls Tryz.prog 70 #[.agg #[.int .i64 c.jobs, .int .i64 c.workers, .int .i64 c.window, .int .i64 c.next, .int .i64 c.reader, .slice A.q c.queue.length A.pq, .slice A.h c.hands.length A.ph, .int .i64 c.closer, .slice A.r c.results.length A.pr, .int .i64 c.keeper, .slice A.g c.ring.length A.pg, .int .i64 c.due, .slice A.o c.out.length A.po, .int .i64 c.user, .slice A.t c.got.length A.pt, .int .i64 c.room, .slice A.s c.shut.length A.ps, .int .i64 c.ops]] w fun e w' => BsEnd w w' e (wayK c) := by
 have HS := xH (Ag.start h hP)
 obtain ⟨b, o, hA, k16, ks⟩ := (xU HS).sh hF 3 (by omega)
 have k9 := (xU HS).k9; have k12 := (xU HS).k12
 have hol : c.out.length ≤ 9223372036854775807 := by have := hF.out; omega
 have HF := xH hF; have HA := xH hA
 clear h hP hF hA
 have HB := xH (xU HS).bel
 go_enter Tryz.func70, Tryz.ntmps70
 go_upto_region 1 with fail
 generalize w.alloc (.cells #[.int .i64 c.jobs, .int .i64 c.workers, .int .i64 c.window, .int .i64 c.next, .int .i64 c.reader, .slice A.q c.queue.length A.pq, .slice A.h c.hands.length A.ph, .int .i64 c.closer, .slice A.r c.results.length A.pr, .int .i64 c.keeper, .slice A.g c.ring.length A.pg, .int .i64 c.due, .slice A.o c.out.length A.po, .int .i64 c.user, .slice A.t c.got.length A.pt, .int .i64 c.room, .slice A.s c.shut.length A.ps, .int .i64 c.ops] 26) = W0 at HS HB k16 ks k9 k12 ⊢
 by_cases r0 : c.keeper = 0
 · rw [r0] at k9
   rcases Nat.eq_zero_or_pos c.results.length with hn | hn
   · have HV := xH (show wayK c = [decide ((0 : Int) < ((0 : Nat) : Int)), (shZ c 3 == 1), (shZ c 1 == 1)] from by unfold wayK; rw [if_pos r0, hn]; exact three0 _ _)
     have HN := xH hn
     clear hn r0 k12
     go_upto_region 4 with fail
     refine wp_swap (c' := Code.region 4 cmkOps true) (by kernel_rfl) ?_
     refine wp_region_noPanic ?_
     refine cmk_0 c A P w (xU HF) b o (xU HA) (xU HN) (shZ c 3 == 1) _ _ (fun _ _ _ _ _ h => h) ((xU HS).on (below_drewN _ 1)) (by kernel_rfl) ?_
     intro v s W' hbs
     refine NoPanic.normal ?_
     simp only [frL_eq, frG, List.lookup, Nat.reduceBEq, Nat.reduceAdd, Option.getD_some, Option.getD_none]
     have HBS := xH hbs
     clear hbs
     go_wp2_with fail
     go_ret
     rw [xU HV]; exact xU HBS
   · obtain ⟨n, hn⟩ : ∃ n, c.results.length = n + 1 := ⟨c.results.length - 1, by omega⟩
     have HV := xH (show wayK c = [decide ((0 : Int) < ((n + 1 : Nat) : Int)), (shZ c 3 == 1), false] from by unfold wayK; rw [if_pos r0, hn]; exact three1 _ _ _)
     have HN := xH hn
     clear hn r0 k12
     go_upto_region 4 with fail
     refine wp_swap (c' := Code.region 4 cmkOps true) (by kernel_rfl) ?_
     refine wp_region_noPanic ?_
     refine cmk_1 c A P w n (xU HN) (shZ c 3 == 1) _ _ (fun _ _ _ _ _ h => h) ((xU HS).on (below_drewN _ 1)) (by kernel_rfl) ?_
     intro v s W' hbs
     refine NoPanic.normal ?_
     simp only [frL_eq, frG, List.lookup, Nat.reduceBEq, Nat.reduceAdd, Option.getD_some, Option.getD_none]
     have HBS := xH hbs
     clear hbs
     go_wp2_with fail
     go_ret
     rw [xU HV]; exact xU HBS
 clear HS HF HA
 have z0 : (c.keeper == 0) = false := by simp [r0]
 by_cases r1 : c.keeper = 2
 · have HV := xH (show wayK c = [((c.out.length : Int) == 0), (shZ c 3 == 1)] from by unfold wayK; rw [if_neg r0, if_pos r1, beq0]; rfl)
   rw [r1] at k9
   clear r1 z0 r0
   generalize shZ c 3 = x3 at ks HV
   generalize c.out.length = x5 at k12 hol HV
   go_wp2_with fail
   go_ret
   rw [xU HV]
   exact bs_new (xU HB) [((x5 : Int) == 0), (x3 == 1)] (by simp)
 have z1 : (c.keeper == 2) = false := by simp [r1]
 by_cases r2 : c.keeper = 5
 · have HV := xH (show wayK c = [] from by unfold wayK; rw [if_neg r0, if_neg r1, if_pos r2])
   rw [r2] at k9
   clear r2 z0 z1 r0 r1
   go_wp2_with fail
   go_ret
   rw [xU HV]
   exact bs_new (xU HB) [] (by simp)
 · have HV := xH (show wayK c = [true] from by unfold wayK; rw [if_neg r0, if_neg r1, if_neg r2])
   have z2 : (c.keeper == 5) = false := by simp [r2]
   clear r2 r0 r1
   generalize c.keeper = x7 at k9 z0 z1 z2
   go_wp2_with fail
   go_ret
   rw [xU HV]
   exact bs_new (xU HB) [true] (by simp)
theorem l52Worker_any (c : Cw) (A : A7) (P : Nat → Prop) (w : World) (h : CwAt P w c (A.v c)) (hP : ∀ b, P b → b < w.heap.size) (hF : Form c) (d : Hd) : Calls Tryz.prog 68 #[.agg #[.int .i64 c.jobs, .int .i64 c.workers, .int .i64 c.window, .int .i64 c.next, .int .i64 c.reader, .slice A.q c.queue.length A.pq, .slice A.h c.hands.length A.ph, .int .i64 c.closer, .slice A.r c.results.length A.pr, .int .i64 c.keeper, .slice A.g c.ring.length A.pg, .int .i64 c.due, .slice A.o c.out.length A.po, .int .i64 c.user, .slice A.t c.got.length A.pt, .int .i64 c.room, .slice A.s c.shut.length A.ps, .int .i64 c.ops], .agg #[.int .i64 d.state, .int .i64 d.job]] w fun e w' => BsEnd w w' e (wayW c d) := by
 have HS := xH ((Ag.start h hP).on ((Below.refl _ _).alloc (Nat.le_refl _) (.cells #[.int .i64 d.state, .int .i64 d.job] 73)))
 obtain ⟨b, o, hA, k16, ks⟩ := (xU HS).sh hF 3 (by omega)
 have k1 := (xU HS).k1; have k8 := (xU HS).k8
 have hrl : c.results.length ≤ 9223372036854775807 := by have := hF.results; have := hF.st.2.1.2; omega
 have HF := xH hF; have HA := xH hA
 have kd : ((w.alloc (.cells #[.int .i64 c.jobs, .int .i64 c.workers, .int .i64 c.window, .int .i64 c.next, .int .i64 c.reader, .slice A.q c.queue.length A.pq, .slice A.h c.hands.length A.ph, .int .i64 c.closer, .slice A.r c.results.length A.pr, .int .i64 c.keeper, .slice A.g c.ring.length A.pg, .int .i64 c.due, .slice A.o c.out.length A.po, .int .i64 c.user, .slice A.t c.got.length A.pt, .int .i64 c.room, .slice A.s c.shut.length A.ps, .int .i64 c.ops] 26)).alloc (.cells #[.int .i64 d.state, .int .i64 d.job] 73)).cell? ⟨w.heap.size + 1, 0, none⟩ = some (.int .i64 d.state) := by
  have := (World.rowIs_alloc (w.alloc (.cells #[.int .i64 c.jobs, .int .i64 c.workers, .int .i64 c.window, .int .i64 c.next, .int .i64 c.reader, .slice A.q c.queue.length A.pq, .slice A.h c.hands.length A.ph, .int .i64 c.closer, .slice A.r c.results.length A.pr, .int .i64 c.keeper, .slice A.g c.ring.length A.pg, .int .i64 c.due, .slice A.o c.out.length A.po, .int .i64 c.user, .slice A.t c.got.length A.pt, .int .i64 c.room, .slice A.s c.shut.length A.ps, .int .i64 c.ops] 26)) #[.int .i64 d.state, .int .i64 d.job] 73 (fun i => (#[.int .i64 d.state, .int .i64 d.job] : Array Value)[i]?.getD undef) (fun i hi => by simp at hi; simp [hi])).cell (i := 0) (by simp)
  rw [World.size_alloc] at this
  exact this
 clear h hP hF hA
 have HB := xH (xU HS).bel
 go_enter Tryz.func68, Tryz.ntmps68
 go_upto_region 1 with fail
 generalize (w.alloc (.cells #[.int .i64 c.jobs, .int .i64 c.workers, .int .i64 c.window, .int .i64 c.next, .int .i64 c.reader, .slice A.q c.queue.length A.pq, .slice A.h c.hands.length A.ph, .int .i64 c.closer, .slice A.r c.results.length A.pr, .int .i64 c.keeper, .slice A.g c.ring.length A.pg, .int .i64 c.due, .slice A.o c.out.length A.po, .int .i64 c.user, .slice A.t c.got.length A.pt, .int .i64 c.room, .slice A.s c.shut.length A.ps, .int .i64 c.ops] 26)).alloc (.cells #[.int .i64 d.state, .int .i64 d.job] 73) = W0 at HS HB k16 ks k1 k8 kd ⊢
 by_cases r0 : d.state = 0
 · rw [r0] at kd
   rcases Nat.eq_zero_or_pos c.queue.length with hn | hn
   · have HV := xH (show wayW c d = [decide ((0 : Int) < ((0 : Nat) : Int)), (shZ c 3 == 1), (shZ c 0 == 1)] from by unfold wayW; rw [if_pos r0, hn]; exact three0 _ _)
     have HN := xH hn
     clear hn r0 k8 k1
     go_upto_region 4 with fail
     refine wp_swap (c' := Code.region 4 cmwOps true) (by kernel_rfl) ?_
     refine wp_region_noPanic ?_
     refine cmw_0 c A P w (xU HF) b o (xU HA) (xU HN) (shZ c 3 == 1) _ _ (fun _ _ _ _ _ h => h) ((xU HS).on (below_drewN _ 1)) (by kernel_rfl) ?_
     intro v s W' hbs
     refine NoPanic.normal ?_
     simp only [frL_eq, frG, List.lookup, Nat.reduceBEq, Nat.reduceAdd, Option.getD_some, Option.getD_none]
     have HBS := xH hbs
     clear hbs
     go_wp2_with fail
     go_ret
     rw [xU HV]; exact xU HBS
   · obtain ⟨n, hn⟩ : ∃ n, c.queue.length = n + 1 := ⟨c.queue.length - 1, by omega⟩
     have HV := xH (show wayW c d = [decide ((0 : Int) < ((n + 1 : Nat) : Int)), (shZ c 3 == 1), false] from by unfold wayW; rw [if_pos r0, hn]; exact three1 _ _ _)
     have HN := xH hn
     clear hn r0 k8 k1
     go_upto_region 4 with fail
     refine wp_swap (c' := Code.region 4 cmwOps true) (by kernel_rfl) ?_
     refine wp_region_noPanic ?_
     refine cmw_1 c A P w n (xU HN) (shZ c 3 == 1) _ _ (fun _ _ _ _ _ h => h) ((xU HS).on (below_drewN _ 1)) (by kernel_rfl) ?_
     intro v s W' hbs
     refine NoPanic.normal ?_
     simp only [frL_eq, frG, List.lookup, Nat.reduceBEq, Nat.reduceAdd, Option.getD_some, Option.getD_none]
     have HBS := xH hbs
     clear hbs
     go_wp2_with fail
     go_ret
     rw [xU HV]; exact xU HBS
 clear HS HF HA
 have z0 : (d.state == 0) = false := by simp [r0]
 by_cases r1 : d.state = 1
 · have HV := xH (show wayW c d = [true] from by unfold wayW; rw [if_neg r0, if_pos r1])
   rw [r1] at kd
   clear r1 z0 r0
   go_wp2_with fail
   go_ret
   rw [xU HV]
   exact bs_new (xU HB) [true] (by simp)
 have z1 : (d.state == 1) = false := by simp [r1]
 by_cases r2 : d.state = 2
 · have HV := xH (show wayW c d = [decide ((c.results.length : Int) < c.workers), (shZ c 3 == 1)] from by unfold wayW; rw [if_neg r0, if_neg r1, if_pos r2]; rfl)
   rw [r2] at kd
   clear r2 z0 z1 r0 r1
   generalize shZ c 3 = x3 at ks HV
   generalize c.results.length = x5 at k8 hrl HV
   generalize c.workers = x6 at k1 HV
   go_wp2_with fail
   go_ret
   rw [xU HV]
   exact bs_new (xU HB) [decide ((x5 : Int) < x6), (x3 == 1)] (by simp)
 · have HV := xH (show wayW c d = [] from by unfold wayW; rw [if_neg r0, if_neg r1, if_neg r2])
   have z2 : (d.state == 2) = false := by simp [r2]
   clear r2 r0 r1
   generalize d.state = x7 at kd z0 z1 z2
   go_wp2_with fail
   go_ret
   rw [xU HV]
   exact bs_new (xU HB) [] (by simp)
end Go.Proofs.YtibgjcejddpldaaGreat
