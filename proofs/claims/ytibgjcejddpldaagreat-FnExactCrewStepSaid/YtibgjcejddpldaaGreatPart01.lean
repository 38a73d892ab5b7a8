/- A part. -/
import Derived.Test.YtibgjcejddpldaaGreatPart00
import Derived.Handy
namespace Go.Proofs.YtibgjcejddpldaaGreat
open Go Go.RowKit
set_option maxRecDepth 100000
set_option maxHeartbeats 3200000
def r18 (l : List Value) (i : Nat) : Value := l.getD i undef
theorem box18 (w : World) (c : Cw) (v : C7) (t : TypeId) : (w.alloc (.cells #[.int .i64 c.jobs, .int .i64 c.workers, .int .i64 c.window, .int .i64 c.next, .int .i64 c.reader, v.q, v.h, .int .i64 c.closer, v.r, .int .i64 c.keeper, v.g, .int .i64 c.due, v.o, .int .i64 c.user, v.t, .int .i64 c.room, v.s, .int .i64 c.ops] t)).rowIs w.heap.size t 18 (r18 [.int .i64 c.jobs, .int .i64 c.workers, .int .i64 c.window, .int .i64 c.next, .int .i64 c.reader, v.q, v.h, .int .i64 c.closer, v.r, .int .i64 c.keeper, v.g, .int .i64 c.due, v.o, .int .i64 c.user, v.t, .int .i64 c.room, v.s, .int .i64 c.ops]) :=
 World.rowIs_alloc w #[.int .i64 c.jobs, .int .i64 c.workers, .int .i64 c.window, .int .i64 c.next, .int .i64 c.reader, v.q, v.h, .int .i64 c.closer, v.r, .int .i64 c.keeper, v.g, .int .i64 c.due, v.o, .int .i64 c.user, v.t, .int .i64 c.room, v.s, .int .i64 c.ops] t _ (fun i hi => by
  have hi' : i < 18 := by simpa using hi
  rcases (show i = 0 ∨ i = 1 ∨ i = 2 ∨ i = 3 ∨ i = 4 ∨ i = 5 ∨ i = 6 ∨ i = 7 ∨ i = 8 ∨ i = 9 ∨ i = 10 ∨ i = 11 ∨ i = 12 ∨ i = 13 ∨ i = 14 ∨ i = 15 ∨ i = 16 ∨ i = 17 by omega) with rfl | rfl | rfl | rfl | rfl | rfl | rfl | rfl | rfl | rfl | rfl | rfl | rfl | rfl | rfl | rfl | rfl | rfl <;> rfl)
theorem eqCrewWorld_any (c : Cw) (v u : C7) (w : World) {P Q : Nat → Prop} (hv : CwAt P w c v) (hu : CwAt Q w c u) (hP : ∀ b, P b → b < w.heap.size) (hQ : ∀ b, Q b → b < w.heap.size) :
 Calls Tryz.prog 26 #[.agg #[.int .i64 c.jobs, .int .i64 c.workers, .int .i64 c.window, .int .i64 c.next, .int .i64 c.reader, v.q, v.h, .int .i64 c.closer, v.r, .int .i64 c.keeper, v.g, .int .i64 c.due, v.o, .int .i64 c.user, v.t, .int .i64 c.room, v.s, .int .i64 c.ops], .agg #[.int .i64 c.jobs, .int .i64 c.workers, .int .i64 c.window, .int .i64 c.next, .int .i64 c.reader, u.q, u.h, .int .i64 c.closer, u.r, .int .i64 c.keeper, u.g, .int .i64 c.due, u.o, .int .i64 c.user, u.t, .int .i64 c.room, u.s, .int .i64 c.ops]] w fun e w' => e = .returned (.bool true) ∧ Below w.heap.size w w' := by
 have hb0 : ∀ o o2, Below w.heap.size w ((w.alloc o).alloc o2) := fun o o2 => ((Below.refl _ _).alloc (Nat.le_refl _) o).alloc (by simp) o2
 have HQ := xH (fun (W : World) (hW : Below w.heap.size w W) => eqIntZ_any v.q u.q c.queue W (hv.q.carry (fun b hb => hW.block b (hP b hb)) (fun _ h => h)) (hu.q.carry (fun b hb => hW.block b (hQ b hb)) (fun _ h => h)) (fun b hb => Nat.lt_of_lt_of_le (hP b hb) hW.size) (fun b hb => Nat.lt_of_lt_of_le (hQ b hb) hW.size))
 have HH := xH (fun (W : World) (hW : Below w.heap.size w W) => eqCrewHandS_any v.h u.h c.hands W (hv.h.carry (fun b hb => hW.block b (hP b hb)) (fun _ h => h)) (hu.h.carry (fun b hb => hW.block b (hQ b hb)) (fun _ h => h)) (fun b hb => Nat.lt_of_lt_of_le (hP b hb) hW.size) (fun b hb => Nat.lt_of_lt_of_le (hQ b hb) hW.size))
 have HR := xH (fun (W : World) (hW : Below w.heap.size w W) => eqIntZ_any v.r u.r c.results W (hv.r.carry (fun b hb => hW.block b (hP b hb)) (fun _ h => h)) (hu.r.carry (fun b hb => hW.block b (hQ b hb)) (fun _ h => h)) (fun b hb => Nat.lt_of_lt_of_le (hP b hb) hW.size) (fun b hb => Nat.lt_of_lt_of_le (hQ b hb) hW.size))
 have HG := xH (fun (W : World) (hW : Below w.heap.size w W) => eqIntZ_any v.g u.g c.ring W (hv.g.carry (fun b hb => hW.block b (hP b hb)) (fun _ h => h)) (hu.g.carry (fun b hb => hW.block b (hQ b hb)) (fun _ h => h)) (fun b hb => Nat.lt_of_lt_of_le (hP b hb) hW.size) (fun b hb => Nat.lt_of_lt_of_le (hQ b hb) hW.size))
 have HO := xH (fun (W : World) (hW : Below w.heap.size w W) => eqIntZ_any v.o u.o c.out W (hv.o.carry (fun b hb => hW.block b (hP b hb)) (fun _ h => h)) (hu.o.carry (fun b hb => hW.block b (hQ b hb)) (fun _ h => h)) (fun b hb => Nat.lt_of_lt_of_le (hP b hb) hW.size) (fun b hb => Nat.lt_of_lt_of_le (hQ b hb) hW.size))
 have HT := xH (fun (W : World) (hW : Below w.heap.size w W) => eqIntZ_any v.t u.t c.got W (hv.t.carry (fun b hb => hW.block b (hP b hb)) (fun _ h => h)) (hu.t.carry (fun b hb => hW.block b (hQ b hb)) (fun _ h => h)) (fun b hb => Nat.lt_of_lt_of_le (hP b hb) hW.size) (fun b hb => Nat.lt_of_lt_of_le (hQ b hb) hW.size))
 have HS := xH (fun (W : World) (hW : Below w.heap.size w W) => eqIntZ_any v.s u.s c.shut W (hv.s.carry (fun b hb => hW.block b (hP b hb)) (fun _ h => h)) (hu.s.carry (fun b hb => hW.block b (hQ b hb)) (fun _ h => h)) (fun b hb => Nat.lt_of_lt_of_le (hP b hb) hW.size) (fun b hb => Nat.lt_of_lt_of_le (hQ b hb) hW.size))
 have HR1 := xH (fun o2 => (box18 w c v 26).alloc (o := o2))
 have hr2 := fun o => box18 (w.alloc o) c u 26
 simp only [World.size_alloc] at hr2
 have HR2 := xH hr2; have HB0 := xH hb0
 clear hv hu hP hQ hr2 hb0
 generalize hxjobs : c.jobs = xjobs at *
 generalize hxworkers : c.workers = xworkers at *
 generalize hxwindow : c.window = xwindow at *
 generalize hxnext : c.next = xnext at *
 generalize hxreader : c.reader = xreader at *
 generalize hxcloser : c.closer = xcloser at *
 generalize hxkeeper : c.keeper = xkeeper at *
 generalize hxdue : c.due = xdue at *
 generalize hxuser : c.user = xuser at *
 generalize hxroom : c.room = xroom at *
 generalize hxops : c.ops = xops at *
 obtain ⟨vq, vh, vr, vg, vo, vt, vs⟩ := v
 obtain ⟨uq, uh, ur, ug, uo, ut, us⟩ := u
 simp only at HQ HH HR HG HO HT HS HR1 HR2 ⊢
 go_enter Tryz.func26, Tryz.ntmps26
 go_wp2_with fail
 refine (xU HQ _ (xU HB0 _ _)).mono ?_
 rintro e w1 ⟨rfl, hb1⟩
 have q1 := (xU HR1 _).of_block (hb1.block w.heap.size (by rw [World.size_alloc, World.size_alloc]; omega))
 have p1 := (xU HR2 _).of_block (hb1.block (w.heap.size + 1) (by rw [World.size_alloc, World.size_alloc]; omega))
 have B1 := xH ((xU HB0 _ _).trans (hb1.mono (xU HB0 _ _).size))
 have k6 : w1.cell? ⟨w.heap.size, 6, none⟩ = some (vh) := q1.cell (i := 6) (by omega)
 have j6 : w1.cell? ⟨w.heap.size + 1, 6, none⟩ = some (uh) := p1.cell (i := 6) (by omega)
 have Q1 := xH q1; have P1 := xH p1
 clear hb1 q1 p1 HR1 HR2 HB0
 go_wp2_with fail
 clear k6 j6
 refine (xU HH _ (xU B1)).mono ?_
 rintro e w2 ⟨rfl, hb2⟩
 have q2 := (xU Q1).of_block (hb2.block _ (xU Q1).lt)
 have p2 := (xU P1).of_block (hb2.block _ (xU P1).lt)
 have B2 := xH ((xU B1).trans (hb2.mono (xU B1).size))
 have k7 : w2.cell? ⟨w.heap.size, 7, none⟩ = some (.int .i64 xcloser) := q2.cell (i := 7) (by omega)
 have j7 : w2.cell? ⟨w.heap.size + 1, 7, none⟩ = some (.int .i64 xcloser) := p2.cell (i := 7) (by omega)
 have k8 : w2.cell? ⟨w.heap.size, 8, none⟩ = some (vr) := q2.cell (i := 8) (by omega)
 have j8 : w2.cell? ⟨w.heap.size + 1, 8, none⟩ = some (ur) := p2.cell (i := 8) (by omega)
 have Q2 := xH q2; have P2 := xH p2
 clear hb2 q2 p2 Q1 P1 B1
 go_wp2_with fail
 clear k7 j7 k8 j8
 refine (xU HR _ (xU B2)).mono ?_
 rintro e w3 ⟨rfl, hb3⟩
 have q3 := (xU Q2).of_block (hb3.block _ (xU Q2).lt)
 have p3 := (xU P2).of_block (hb3.block _ (xU P2).lt)
 have B3 := xH ((xU B2).trans (hb3.mono (xU B2).size))
 have k9 : w3.cell? ⟨w.heap.size, 9, none⟩ = some (.int .i64 xkeeper) := q3.cell (i := 9) (by omega)
 have j9 : w3.cell? ⟨w.heap.size + 1, 9, none⟩ = some (.int .i64 xkeeper) := p3.cell (i := 9) (by omega)
 have k10 : w3.cell? ⟨w.heap.size, 10, none⟩ = some (vg) := q3.cell (i := 10) (by omega)
 have j10 : w3.cell? ⟨w.heap.size + 1, 10, none⟩ = some (ug) := p3.cell (i := 10) (by omega)
 have Q3 := xH q3; have P3 := xH p3
 clear hb3 q3 p3 Q2 P2 B2
 go_wp2_with fail
 clear k9 j9 k10 j10
 refine (xU HG _ (xU B3)).mono ?_
 rintro e w4 ⟨rfl, hb4⟩
 have q4 := (xU Q3).of_block (hb4.block _ (xU Q3).lt)
 have p4 := (xU P3).of_block (hb4.block _ (xU P3).lt)
 have B4 := xH ((xU B3).trans (hb4.mono (xU B3).size))
 have k11 : w4.cell? ⟨w.heap.size, 11, none⟩ = some (.int .i64 xdue) := q4.cell (i := 11) (by omega)
 have j11 : w4.cell? ⟨w.heap.size + 1, 11, none⟩ = some (.int .i64 xdue) := p4.cell (i := 11) (by omega)
 have k12 : w4.cell? ⟨w.heap.size, 12, none⟩ = some (vo) := q4.cell (i := 12) (by omega)
 have j12 : w4.cell? ⟨w.heap.size + 1, 12, none⟩ = some (uo) := p4.cell (i := 12) (by omega)
 have Q4 := xH q4; have P4 := xH p4
 clear hb4 q4 p4 Q3 P3 B3
 go_wp2_with fail
 clear k11 j11 k12 j12
 refine (xU HO _ (xU B4)).mono ?_
 rintro e w5 ⟨rfl, hb5⟩
 have q5 := (xU Q4).of_block (hb5.block _ (xU Q4).lt)
 have p5 := (xU P4).of_block (hb5.block _ (xU P4).lt)
 have B5 := xH ((xU B4).trans (hb5.mono (xU B4).size))
 have k13 : w5.cell? ⟨w.heap.size, 13, none⟩ = some (.int .i64 xuser) := q5.cell (i := 13) (by omega)
 have j13 : w5.cell? ⟨w.heap.size + 1, 13, none⟩ = some (.int .i64 xuser) := p5.cell (i := 13) (by omega)
 have k14 : w5.cell? ⟨w.heap.size, 14, none⟩ = some (vt) := q5.cell (i := 14) (by omega)
 have j14 : w5.cell? ⟨w.heap.size + 1, 14, none⟩ = some (ut) := p5.cell (i := 14) (by omega)
 have Q5 := xH q5; have P5 := xH p5
 clear hb5 q5 p5 Q4 P4 B4
 go_wp2_with fail
 clear k13 j13 k14 j14
 refine (xU HT _ (xU B5)).mono ?_
 rintro e w6 ⟨rfl, hb6⟩
 have q6 := (xU Q5).of_block (hb6.block _ (xU Q5).lt)
 have p6 := (xU P5).of_block (hb6.block _ (xU P5).lt)
 have B6 := xH ((xU B5).trans (hb6.mono (xU B5).size))
 have k15 : w6.cell? ⟨w.heap.size, 15, none⟩ = some (.int .i64 xroom) := q6.cell (i := 15) (by omega)
 have j15 : w6.cell? ⟨w.heap.size + 1, 15, none⟩ = some (.int .i64 xroom) := p6.cell (i := 15) (by omega)
 have k16 : w6.cell? ⟨w.heap.size, 16, none⟩ = some (vs) := q6.cell (i := 16) (by omega)
 have j16 : w6.cell? ⟨w.heap.size + 1, 16, none⟩ = some (us) := p6.cell (i := 16) (by omega)
 have Q6 := xH q6; have P6 := xH p6
 clear hb6 q6 p6 Q5 P5 B5
 go_wp2_with fail
 clear k15 j15 k16 j16
 refine (xU HS _ (xU B6)).mono ?_
 rintro e w7 ⟨rfl, hb7⟩
 have q7 := (xU Q6).of_block (hb7.block _ (xU Q6).lt)
 have p7 := (xU P6).of_block (hb7.block _ (xU P6).lt)
 have B7 := xH ((xU B6).trans (hb7.mono (xU B6).size))
 have k17 : w7.cell? ⟨w.heap.size, 17, none⟩ = some (.int .i64 xops) := q7.cell (i := 17) (by omega)
 have j17 : w7.cell? ⟨w.heap.size + 1, 17, none⟩ = some (.int .i64 xops) := p7.cell (i := 17) (by omega)
 have Q7 := xH q7; have P7 := xH p7
 clear hb7 q7 p7 Q6 P6 B6
 go_wp2_with fail
 go_ret
 exact ⟨rfl, xU B7⟩

theorem ret_i {a b : Int} (h : a = b) : Ending.returned (.int .i64 a) = .returned (.int .i64 b) := by rw [h]
structure Dj7 (Fq Fh Fr Fg Fo Ft Fs : List Nat) : Prop where
 d0 : ∀ b, b ∈ Fq → b ∉ Fh ++ (Fr ++ (Fg ++ (Fo ++ (Ft ++ (Fs)))))
 d1 : ∀ b, b ∈ Fh → b ∉ Fr ++ (Fg ++ (Fo ++ (Ft ++ (Fs))))
 d2 : ∀ b, b ∈ Fr → b ∉ Fg ++ (Fo ++ (Ft ++ (Fs)))
 d3 : ∀ b, b ∈ Fg → b ∉ Fo ++ (Ft ++ (Fs))
 d4 : ∀ b, b ∈ Fo → b ∉ Ft ++ (Fs)
 d5 : ∀ b, b ∈ Ft → b ∉ Fs
theorem Exc.sub {F F' : List Nat} {w w' : World} (h : Exc F w w') (hs : ∀ b, b ∈ F → b ∈ F') : Exc F' w w' := ⟨h.os, h.tape, h.output, h.size, fun k hk hn => h.block k hk (fun hm => hn (hs k hm))⟩
structure MkSt (w wr : World) (c0 c : Cw) (v : C7) (Fq Fh Fr Fg Fo Ft Fs : List Nat) : Prop where
 own : CwOwn wr c v Fq Fh Fr Fg Fo Ft Fs
 exc : Exc (F7 Fq Fh Fr Fg Fo Ft Fs) w wr
 box : wr.rowIs w.heap.size 26 18 (r18 [.int .i64 c0.jobs, .int .i64 c0.workers, .int .i64 c0.window, .int .i64 c0.next, .int .i64 c0.reader, v.q, v.h, .int .i64 c0.closer, v.r, .int .i64 c0.keeper, v.g, .int .i64 c0.due, v.o, .int .i64 c0.user, v.t, .int .i64 c0.room, v.s, .int .i64 c0.ops])
theorem MkSt.q {w wr : World} {c0 c : Cw} {v : C7} {Fq Fh Fr Fg Fo Ft Fs : List Nat} {w' : World} {zs : List Int} (h : MkSt w wr c0 c v Fq Fh Fr Fg Fo Ft Fs) (hd : Dj7 Fq Fh Fr Fg Fo Ft Fs) (hl : ∀ b, b ∈ F7 Fq Fh Fr Fg Fo Ft Fs → b < w.heap.size) (hz : ZOwn w' v.q zs Fq) (hx : Exc Fq wr w') : MkSt w w' c0 { c with queue := zs } v Fq Fh Fr Fg Fo Ft Fs :=
 ⟨⟨hz, FlatOwn.carry h.own.h (fun b hb => hx.block b (Nat.lt_of_lt_of_le (hl b (by simp [F7, hb])) h.exc.size) (fun hm => (hd.d0 b hm) (List.mem_append_left _ hb))), FlatOwn.carry h.own.r (fun b hb => hx.block b (Nat.lt_of_lt_of_le (hl b (by simp [F7, hb])) h.exc.size) (fun hm => (hd.d0 b hm) (List.mem_append_right _ (List.mem_append_left _ hb)))), FlatOwn.carry h.own.g (fun b hb => hx.block b (Nat.lt_of_lt_of_le (hl b (by simp [F7, hb])) h.exc.size) (fun hm => (hd.d0 b hm) (List.mem_append_right _ (List.mem_append_right _ (List.mem_append_left _ hb))))), FlatOwn.carry h.own.o (fun b hb => hx.block b (Nat.lt_of_lt_of_le (hl b (by simp [F7, hb])) h.exc.size) (fun hm => (hd.d0 b hm) (List.mem_append_right _ (List.mem_append_right _ (List.mem_append_right _ (List.mem_append_left _ hb)))))), FlatOwn.carry h.own.t (fun b hb => hx.block b (Nat.lt_of_lt_of_le (hl b (by simp [F7, hb])) h.exc.size) (fun hm => (hd.d0 b hm) (List.mem_append_right _ (List.mem_append_right _ (List.mem_append_right _ (List.mem_append_right _ (List.mem_append_left _ hb))))))), FlatOwn.carry h.own.s (fun b hb => hx.block b (Nat.lt_of_lt_of_le (hl b (by simp [F7, hb])) h.exc.size) (fun hm => (hd.d0 b hm) (List.mem_append_right _ (List.mem_append_right _ (List.mem_append_right _ (List.mem_append_right _ (List.mem_append_right _ (hb))))))))⟩, h.exc.trans (hx.sub (fun b hb => by simp [F7, hb])), h.box.of_block (hx.block _ h.box.lt (fun hm => Nat.lt_irrefl _ (hl _ (by simp [F7, hm]))))⟩
theorem MkSt.h {w wr : World} {c0 c : Cw} {v : C7} {Fq Fh Fr Fg Fo Ft Fs : List Nat} {w' : World} {zs : List Hd} (h : MkSt w wr c0 c v Fq Fh Fr Fg Fo Ft Fs) (hd : Dj7 Fq Fh Fr Fg Fo Ft Fs) (hl : ∀ b, b ∈ F7 Fq Fh Fr Fg Fo Ft Fs → b < w.heap.size) (hz : HOwn w' v.h zs Fh) (hx : Exc Fh wr w') : MkSt w w' c0 { c with hands := zs } v Fq Fh Fr Fg Fo Ft Fs :=
 ⟨⟨FlatOwn.carry h.own.q (fun b hb => hx.block b (Nat.lt_of_lt_of_le (hl b (by simp [F7, hb])) h.exc.size) (fun hm => (hd.d0 b hb) (List.mem_append_left _ hm))), hz, FlatOwn.carry h.own.r (fun b hb => hx.block b (Nat.lt_of_lt_of_le (hl b (by simp [F7, hb])) h.exc.size) (fun hm => (hd.d1 b hm) (List.mem_append_left _ hb))), FlatOwn.carry h.own.g (fun b hb => hx.block b (Nat.lt_of_lt_of_le (hl b (by simp [F7, hb])) h.exc.size) (fun hm => (hd.d1 b hm) (List.mem_append_right _ (List.mem_append_left _ hb)))), FlatOwn.carry h.own.o (fun b hb => hx.block b (Nat.lt_of_lt_of_le (hl b (by simp [F7, hb])) h.exc.size) (fun hm => (hd.d1 b hm) (List.mem_append_right _ (List.mem_append_right _ (List.mem_append_left _ hb))))), FlatOwn.carry h.own.t (fun b hb => hx.block b (Nat.lt_of_lt_of_le (hl b (by simp [F7, hb])) h.exc.size) (fun hm => (hd.d1 b hm) (List.mem_append_right _ (List.mem_append_right _ (List.mem_append_right _ (List.mem_append_left _ hb)))))), FlatOwn.carry h.own.s (fun b hb => hx.block b (Nat.lt_of_lt_of_le (hl b (by simp [F7, hb])) h.exc.size) (fun hm => (hd.d1 b hm) (List.mem_append_right _ (List.mem_append_right _ (List.mem_append_right _ (List.mem_append_right _ (hb)))))))⟩, h.exc.trans (hx.sub (fun b hb => by simp [F7, hb])), h.box.of_block (hx.block _ h.box.lt (fun hm => Nat.lt_irrefl _ (hl _ (by simp [F7, hm]))))⟩
theorem MkSt.r {w wr : World} {c0 c : Cw} {v : C7} {Fq Fh Fr Fg Fo Ft Fs : List Nat} {w' : World} {zs : List Int} (h : MkSt w wr c0 c v Fq Fh Fr Fg Fo Ft Fs) (hd : Dj7 Fq Fh Fr Fg Fo Ft Fs) (hl : ∀ b, b ∈ F7 Fq Fh Fr Fg Fo Ft Fs → b < w.heap.size) (hz : ZOwn w' v.r zs Fr) (hx : Exc Fr wr w') : MkSt w w' c0 { c with results := zs } v Fq Fh Fr Fg Fo Ft Fs :=
 ⟨⟨FlatOwn.carry h.own.q (fun b hb => hx.block b (Nat.lt_of_lt_of_le (hl b (by simp [F7, hb])) h.exc.size) (fun hm => (hd.d0 b hb) (List.mem_append_right _ (List.mem_append_left _ hm)))), FlatOwn.carry h.own.h (fun b hb => hx.block b (Nat.lt_of_lt_of_le (hl b (by simp [F7, hb])) h.exc.size) (fun hm => (hd.d1 b hb) (List.mem_append_left _ hm))), hz, FlatOwn.carry h.own.g (fun b hb => hx.block b (Nat.lt_of_lt_of_le (hl b (by simp [F7, hb])) h.exc.size) (fun hm => (hd.d2 b hm) (List.mem_append_left _ hb))), FlatOwn.carry h.own.o (fun b hb => hx.block b (Nat.lt_of_lt_of_le (hl b (by simp [F7, hb])) h.exc.size) (fun hm => (hd.d2 b hm) (List.mem_append_right _ (List.mem_append_left _ hb)))), FlatOwn.carry h.own.t (fun b hb => hx.block b (Nat.lt_of_lt_of_le (hl b (by simp [F7, hb])) h.exc.size) (fun hm => (hd.d2 b hm) (List.mem_append_right _ (List.mem_append_right _ (List.mem_append_left _ hb))))), FlatOwn.carry h.own.s (fun b hb => hx.block b (Nat.lt_of_lt_of_le (hl b (by simp [F7, hb])) h.exc.size) (fun hm => (hd.d2 b hm) (List.mem_append_right _ (List.mem_append_right _ (List.mem_append_right _ (hb))))))⟩, h.exc.trans (hx.sub (fun b hb => by simp [F7, hb])), h.box.of_block (hx.block _ h.box.lt (fun hm => Nat.lt_irrefl _ (hl _ (by simp [F7, hm]))))⟩
theorem MkSt.g {w wr : World} {c0 c : Cw} {v : C7} {Fq Fh Fr Fg Fo Ft Fs : List Nat} {w' : World} {zs : List Int} (h : MkSt w wr c0 c v Fq Fh Fr Fg Fo Ft Fs) (hd : Dj7 Fq Fh Fr Fg Fo Ft Fs) (hl : ∀ b, b ∈ F7 Fq Fh Fr Fg Fo Ft Fs → b < w.heap.size) (hz : ZOwn w' v.g zs Fg) (hx : Exc Fg wr w') : MkSt w w' c0 { c with ring := zs } v Fq Fh Fr Fg Fo Ft Fs :=
 ⟨⟨FlatOwn.carry h.own.q (fun b hb => hx.block b (Nat.lt_of_lt_of_le (hl b (by simp [F7, hb])) h.exc.size) (fun hm => (hd.d0 b hb) (List.mem_append_right _ (List.mem_append_right _ (List.mem_append_left _ hm))))), FlatOwn.carry h.own.h (fun b hb => hx.block b (Nat.lt_of_lt_of_le (hl b (by simp [F7, hb])) h.exc.size) (fun hm => (hd.d1 b hb) (List.mem_append_right _ (List.mem_append_left _ hm)))), FlatOwn.carry h.own.r (fun b hb => hx.block b (Nat.lt_of_lt_of_le (hl b (by simp [F7, hb])) h.exc.size) (fun hm => (hd.d2 b hb) (List.mem_append_left _ hm))), hz, FlatOwn.carry h.own.o (fun b hb => hx.block b (Nat.lt_of_lt_of_le (hl b (by simp [F7, hb])) h.exc.size) (fun hm => (hd.d3 b hm) (List.mem_append_left _ hb))), FlatOwn.carry h.own.t (fun b hb => hx.block b (Nat.lt_of_lt_of_le (hl b (by simp [F7, hb])) h.exc.size) (fun hm => (hd.d3 b hm) (List.mem_append_right _ (List.mem_append_left _ hb)))), FlatOwn.carry h.own.s (fun b hb => hx.block b (Nat.lt_of_lt_of_le (hl b (by simp [F7, hb])) h.exc.size) (fun hm => (hd.d3 b hm) (List.mem_append_right _ (List.mem_append_right _ (hb)))))⟩, h.exc.trans (hx.sub (fun b hb => by simp [F7, hb])), h.box.of_block (hx.block _ h.box.lt (fun hm => Nat.lt_irrefl _ (hl _ (by simp [F7, hm]))))⟩
theorem MkSt.o {w wr : World} {c0 c : Cw} {v : C7} {Fq Fh Fr Fg Fo Ft Fs : List Nat} {w' : World} {zs : List Int} (h : MkSt w wr c0 c v Fq Fh Fr Fg Fo Ft Fs) (hd : Dj7 Fq Fh Fr Fg Fo Ft Fs) (hl : ∀ b, b ∈ F7 Fq Fh Fr Fg Fo Ft Fs → b < w.heap.size) (hz : ZOwn w' v.o zs Fo) (hx : Exc Fo wr w') : MkSt w w' c0 { c with out := zs } v Fq Fh Fr Fg Fo Ft Fs :=
 ⟨⟨FlatOwn.carry h.own.q (fun b hb => hx.block b (Nat.lt_of_lt_of_le (hl b (by simp [F7, hb])) h.exc.size) (fun hm => (hd.d0 b hb) (List.mem_append_right _ (List.mem_append_right _ (List.mem_append_right _ (List.mem_append_left _ hm)))))), FlatOwn.carry h.own.h (fun b hb => hx.block b (Nat.lt_of_lt_of_le (hl b (by simp [F7, hb])) h.exc.size) (fun hm => (hd.d1 b hb) (List.mem_append_right _ (List.mem_append_right _ (List.mem_append_left _ hm))))), FlatOwn.carry h.own.r (fun b hb => hx.block b (Nat.lt_of_lt_of_le (hl b (by simp [F7, hb])) h.exc.size) (fun hm => (hd.d2 b hb) (List.mem_append_right _ (List.mem_append_left _ hm)))), FlatOwn.carry h.own.g (fun b hb => hx.block b (Nat.lt_of_lt_of_le (hl b (by simp [F7, hb])) h.exc.size) (fun hm => (hd.d3 b hb) (List.mem_append_left _ hm))), hz, FlatOwn.carry h.own.t (fun b hb => hx.block b (Nat.lt_of_lt_of_le (hl b (by simp [F7, hb])) h.exc.size) (fun hm => (hd.d4 b hm) (List.mem_append_left _ hb))), FlatOwn.carry h.own.s (fun b hb => hx.block b (Nat.lt_of_lt_of_le (hl b (by simp [F7, hb])) h.exc.size) (fun hm => (hd.d4 b hm) (List.mem_append_right _ (hb))))⟩, h.exc.trans (hx.sub (fun b hb => by simp [F7, hb])), h.box.of_block (hx.block _ h.box.lt (fun hm => Nat.lt_irrefl _ (hl _ (by simp [F7, hm]))))⟩
theorem MkSt.t {w wr : World} {c0 c : Cw} {v : C7} {Fq Fh Fr Fg Fo Ft Fs : List Nat} {w' : World} {zs : List Int} (h : MkSt w wr c0 c v Fq Fh Fr Fg Fo Ft Fs) (hd : Dj7 Fq Fh Fr Fg Fo Ft Fs) (hl : ∀ b, b ∈ F7 Fq Fh Fr Fg Fo Ft Fs → b < w.heap.size) (hz : ZOwn w' v.t zs Ft) (hx : Exc Ft wr w') : MkSt w w' c0 { c with got := zs } v Fq Fh Fr Fg Fo Ft Fs :=
 ⟨⟨FlatOwn.carry h.own.q (fun b hb => hx.block b (Nat.lt_of_lt_of_le (hl b (by simp [F7, hb])) h.exc.size) (fun hm => (hd.d0 b hb) (List.mem_append_right _ (List.mem_append_right _ (List.mem_append_right _ (List.mem_append_right _ (List.mem_append_left _ hm))))))), FlatOwn.carry h.own.h (fun b hb => hx.block b (Nat.lt_of_lt_of_le (hl b (by simp [F7, hb])) h.exc.size) (fun hm => (hd.d1 b hb) (List.mem_append_right _ (List.mem_append_right _ (List.mem_append_right _ (List.mem_append_left _ hm)))))), FlatOwn.carry h.own.r (fun b hb => hx.block b (Nat.lt_of_lt_of_le (hl b (by simp [F7, hb])) h.exc.size) (fun hm => (hd.d2 b hb) (List.mem_append_right _ (List.mem_append_right _ (List.mem_append_left _ hm))))), FlatOwn.carry h.own.g (fun b hb => hx.block b (Nat.lt_of_lt_of_le (hl b (by simp [F7, hb])) h.exc.size) (fun hm => (hd.d3 b hb) (List.mem_append_right _ (List.mem_append_left _ hm)))), FlatOwn.carry h.own.o (fun b hb => hx.block b (Nat.lt_of_lt_of_le (hl b (by simp [F7, hb])) h.exc.size) (fun hm => (hd.d4 b hb) (List.mem_append_left _ hm))), hz, FlatOwn.carry h.own.s (fun b hb => hx.block b (Nat.lt_of_lt_of_le (hl b (by simp [F7, hb])) h.exc.size) (fun hm => (hd.d5 b hm) (hb)))⟩, h.exc.trans (hx.sub (fun b hb => by simp [F7, hb])), h.box.of_block (hx.block _ h.box.lt (fun hm => Nat.lt_irrefl _ (hl _ (by simp [F7, hm]))))⟩
theorem MkSt.s {w wr : World} {c0 c : Cw} {v : C7} {Fq Fh Fr Fg Fo Ft Fs : List Nat} {w' : World} {zs : List Int} (h : MkSt w wr c0 c v Fq Fh Fr Fg Fo Ft Fs) (hd : Dj7 Fq Fh Fr Fg Fo Ft Fs) (hl : ∀ b, b ∈ F7 Fq Fh Fr Fg Fo Ft Fs → b < w.heap.size) (hz : ZOwn w' v.s zs Fs) (hx : Exc Fs wr w') : MkSt w w' c0 { c with shut := zs } v Fq Fh Fr Fg Fo Ft Fs :=
 ⟨⟨FlatOwn.carry h.own.q (fun b hb => hx.block b (Nat.lt_of_lt_of_le (hl b (by simp [F7, hb])) h.exc.size) (fun hm => (hd.d0 b hb) (List.mem_append_right _ (List.mem_append_right _ (List.mem_append_right _ (List.mem_append_right _ (List.mem_append_right _ (hm)))))))), FlatOwn.carry h.own.h (fun b hb => hx.block b (Nat.lt_of_lt_of_le (hl b (by simp [F7, hb])) h.exc.size) (fun hm => (hd.d1 b hb) (List.mem_append_right _ (List.mem_append_right _ (List.mem_append_right _ (List.mem_append_right _ (hm))))))), FlatOwn.carry h.own.r (fun b hb => hx.block b (Nat.lt_of_lt_of_le (hl b (by simp [F7, hb])) h.exc.size) (fun hm => (hd.d2 b hb) (List.mem_append_right _ (List.mem_append_right _ (List.mem_append_right _ (hm)))))), FlatOwn.carry h.own.g (fun b hb => hx.block b (Nat.lt_of_lt_of_le (hl b (by simp [F7, hb])) h.exc.size) (fun hm => (hd.d3 b hb) (List.mem_append_right _ (List.mem_append_right _ (hm))))), FlatOwn.carry h.own.o (fun b hb => hx.block b (Nat.lt_of_lt_of_le (hl b (by simp [F7, hb])) h.exc.size) (fun hm => (hd.d4 b hb) (List.mem_append_right _ (hm)))), FlatOwn.carry h.own.t (fun b hb => hx.block b (Nat.lt_of_lt_of_le (hl b (by simp [F7, hb])) h.exc.size) (fun hm => (hd.d5 b hb) (hm))), hz⟩, h.exc.trans (hx.sub (fun b hb => by simp [F7, hb])), h.box.of_block (hx.block _ h.box.lt (fun hm => Nat.lt_irrefl _ (hl _ (by simp [F7, hm]))))⟩
def mkC (c : Cw) : Nat := c.queue.length + 2 * c.hands.length + c.results.length + c.ring.length + c.out.length + c.got.length + c.shut.length
def mCw (k : Nat) (c : Cw) : Cw := { c with queue := mZs (k) c.queue.length, hands := mHs (k + c.queue.length) c.hands.length, results := mZs (k + c.queue.length + 2 * c.hands.length) c.results.length, ring := mZs (k + c.queue.length + 2 * c.hands.length + c.results.length) c.ring.length, out := mZs (k + c.queue.length + 2 * c.hands.length + c.results.length + c.ring.length) c.out.length, got := mZs (k + c.queue.length + 2 * c.hands.length + c.results.length + c.ring.length + c.out.length) c.got.length, shut := mZs (k + c.queue.length + 2 * c.hands.length + c.results.length + c.ring.length + c.out.length + c.got.length) c.shut.length }
theorem markCrewWorld_own (c : Cw) (v : C7) (Fq Fh Fr Fg Fo Ft Fs : List Nat) (k : Nat) (w : World) (hv : CwOwn w c v Fq Fh Fr Fg Fo Ft Fs) (hd : Dj7 Fq Fh Fr Fg Fo Ft Fs) (hl : ∀ b, b ∈ F7 Fq Fh Fr Fg Fo Ft Fs → b < w.heap.size) (hk : k + mkC c ≤ 1099511627776) :
 Calls Tryz.prog 27 #[.agg #[.int .i64 c.jobs, .int .i64 c.workers, .int .i64 c.window, .int .i64 c.next, .int .i64 c.reader, v.q, v.h, .int .i64 c.closer, v.r, .int .i64 c.keeper, v.g, .int .i64 c.due, v.o, .int .i64 c.user, v.t, .int .i64 c.room, v.s, .int .i64 c.ops], .int .i64 k] w fun e w' => e = .returned (.int .i64 (k + mkC c : Nat)) ∧ CwOwn w' (mCw k c) v Fq Fh Fr Fg Fo Ft Fs ∧ Exc (F7 Fq Fh Fr Fg Fo Ft Fs) w w' := by
 unfold mkC at hk
 have hst : ∀ o, o = Obj.cells #[.int .i64 c.jobs, .int .i64 c.workers, .int .i64 c.window, .int .i64 c.next, .int .i64 c.reader, v.q, v.h, .int .i64 c.closer, v.r, .int .i64 c.keeper, v.g, .int .i64 c.due, v.o, .int .i64 c.user, v.t, .int .i64 c.room, v.s, .int .i64 c.ops] 26 → MkSt w (w.alloc o) c c v Fq Fh Fr Fg Fo Ft Fs := fun o ho => by
  subst ho
  exact ⟨hv.carry (fun b hb => Below.heap_alloc _ _ _ (hl b hb)), Exc.of_below ((Below.refl _ _).alloc (Nat.le_refl _) _), box18 w c v 26⟩
 have HD := xH hd; have HL := xH hl; have HST := xH hst
 clear hv hd hl hst
 obtain ⟨nq, hnq⟩ : ∃ n, n = c.queue.length := ⟨_, rfl⟩
 obtain ⟨nh, hnh⟩ : ∃ n, n = c.hands.length := ⟨_, rfl⟩
 obtain ⟨nr, hnr⟩ : ∃ n, n = c.results.length := ⟨_, rfl⟩
 obtain ⟨ng, hng⟩ : ∃ n, n = c.ring.length := ⟨_, rfl⟩
 obtain ⟨no, hno⟩ : ∃ n, n = c.out.length := ⟨_, rfl⟩
 obtain ⟨nt, hnt⟩ : ∃ n, n = c.got.length := ⟨_, rfl⟩
 obtain ⟨ns, hns⟩ : ∃ n, n = c.shut.length := ⟨_, rfl⟩
 go_enter Tryz.func27, Tryz.ntmps27
 go_wp2_with fail
 refine (markIntZ_own v.q c.queue Fq (k) _ (xU HST _ rfl).own.q (by omega)).mono ?_
 rintro e w1 ⟨rfl, hz1, hx1⟩
 have hst1 := MkSt.q (xU HST _ rfl) (xU HD) (xU HL) hz1 hx1
 have k6 : w1.cell? ⟨w.heap.size, 6, none⟩ = some v.h := hst1.box.cell (i := 6) (by omega)
 have HC1 := xH (markCrewHandS_own v.h c.hands Fh (k + c.queue.length) w1 hst1.own.h (by omega))
 have ST1 := xH hst1
 clear hz1 hx1 hst1 HST
 go_wp2_with fail
 clear k6
 refine (xU HC1).mono ?_
 rintro e w2 ⟨rfl, hz2, hx2⟩
 have hst2 := MkSt.h (xU ST1) (xU HD) (xU HL) hz2 hx2
 have k8 : w2.cell? ⟨w.heap.size, 8, none⟩ = some v.r := hst2.box.cell (i := 8) (by omega)
 have HC2 := xH (markIntZ_own v.r c.results Fr (k + c.queue.length + 2 * c.hands.length) w2 hst2.own.r (by omega))
 have ST2 := xH hst2
 clear hz2 hx2 hst2 ST1 HC1
 go_wp2_with fail
 clear k8
 refine (xU HC2).mono ?_
 rintro e w3 ⟨rfl, hz3, hx3⟩
 have hst3 := MkSt.r (xU ST2) (xU HD) (xU HL) hz3 hx3
 have k10 : w3.cell? ⟨w.heap.size, 10, none⟩ = some v.g := hst3.box.cell (i := 10) (by omega)
 have HC3 := xH (markIntZ_own v.g c.ring Fg (k + c.queue.length + 2 * c.hands.length + c.results.length) w3 hst3.own.g (by omega))
 have ST3 := xH hst3
 clear hz3 hx3 hst3 ST2 HC2
 go_wp2_with fail
 clear k10
 refine (xU HC3).mono ?_
 rintro e w4 ⟨rfl, hz4, hx4⟩
 have hst4 := MkSt.g (xU ST3) (xU HD) (xU HL) hz4 hx4
 have k12 : w4.cell? ⟨w.heap.size, 12, none⟩ = some v.o := hst4.box.cell (i := 12) (by omega)
 have HC4 := xH (markIntZ_own v.o c.out Fo (k + c.queue.length + 2 * c.hands.length + c.results.length + c.ring.length) w4 hst4.own.o (by omega))
 have ST4 := xH hst4
 clear hz4 hx4 hst4 ST3 HC3
 go_wp2_with fail
 clear k12
 refine (xU HC4).mono ?_
 rintro e w5 ⟨rfl, hz5, hx5⟩
 have hst5 := MkSt.o (xU ST4) (xU HD) (xU HL) hz5 hx5
 have k14 : w5.cell? ⟨w.heap.size, 14, none⟩ = some v.t := hst5.box.cell (i := 14) (by omega)
 have HC5 := xH (markIntZ_own v.t c.got Ft (k + c.queue.length + 2 * c.hands.length + c.results.length + c.ring.length + c.out.length) w5 hst5.own.t (by omega))
 have ST5 := xH hst5
 clear hz5 hx5 hst5 ST4 HC4
 go_wp2_with fail
 clear k14
 refine (xU HC5).mono ?_
 rintro e w6 ⟨rfl, hz6, hx6⟩
 have hst6 := MkSt.t (xU ST5) (xU HD) (xU HL) hz6 hx6
 have k16 : w6.cell? ⟨w.heap.size, 16, none⟩ = some v.s := hst6.box.cell (i := 16) (by omega)
 have HC6 := xH (markIntZ_own v.s c.shut Fs (k + c.queue.length + 2 * c.hands.length + c.results.length + c.ring.length + c.out.length + c.got.length) w6 hst6.own.s (by omega))
 have ST6 := xH hst6
 clear hz6 hx6 hst6 ST5 HC5
 go_wp2_with fail
 clear k16
 refine (xU HC6).mono ?_
 rintro e w7 ⟨rfl, hz7, hx7⟩
 have hst7 := MkSt.s (xU ST6) (xU HD) (xU HL) hz7 hx7
 have HF := xH hst7
 clear hz7 hx7 hst7 ST6 HC6
 go_wp2_with fail
 go_ret
 exact ⟨ret_i (by unfold mkC; omega), (xU HF).own, (xU HF).exc⟩
theorem heldCrewWorld_any (c : Cw) (v : C7) (k : Nat) (w : World) {P : Nat → Prop} (hv : CwAt P w (mCw k c) v) (hP : ∀ b, P b → b < w.heap.size) (hk : k + mkC c ≤ 1099511627776) (c1 : Cw) :
 Calls Tryz.prog 31 #[.agg #[.int .i64 c1.jobs, .int .i64 c1.workers, .int .i64 c1.window, .int .i64 c1.next, .int .i64 c1.reader, v.q, v.h, .int .i64 c1.closer, v.r, .int .i64 c1.keeper, v.g, .int .i64 c1.due, v.o, .int .i64 c1.user, v.t, .int .i64 c1.room, v.s, .int .i64 c1.ops], .int .i64 k] w fun e w' => e = .returned (.int .i64 (k + mkC c : Nat)) ∧ Below w.heap.size w w' := by
 unfold mkC at hk
 have hb0 : ∀ o, Below w.heap.size w (w.alloc o) := fun o => (Below.refl _ _).alloc (Nat.le_refl _) o
 have HQ := xH (fun (W : World) (hW : Below w.heap.size w W) => heldIntZ_any v.q c.queue.length (k) W (hv.q.carry (fun b hb => hW.block b (hP b hb)) (fun _ h => h)) (fun b hb => Nat.lt_of_lt_of_le (hP b hb) hW.size) (by omega))
 have HH := xH (fun (W : World) (hW : Below w.heap.size w W) => heldCrewHandS_any v.h c.hands.length (k + c.queue.length) W (hv.h.carry (fun b hb => hW.block b (hP b hb)) (fun _ h => h)) (fun b hb => Nat.lt_of_lt_of_le (hP b hb) hW.size) (by omega))
 have HR := xH (fun (W : World) (hW : Below w.heap.size w W) => heldIntZ_any v.r c.results.length (k + c.queue.length + 2 * c.hands.length) W (hv.r.carry (fun b hb => hW.block b (hP b hb)) (fun _ h => h)) (fun b hb => Nat.lt_of_lt_of_le (hP b hb) hW.size) (by omega))
 have HG := xH (fun (W : World) (hW : Below w.heap.size w W) => heldIntZ_any v.g c.ring.length (k + c.queue.length + 2 * c.hands.length + c.results.length) W (hv.g.carry (fun b hb => hW.block b (hP b hb)) (fun _ h => h)) (fun b hb => Nat.lt_of_lt_of_le (hP b hb) hW.size) (by omega))
 have HO := xH (fun (W : World) (hW : Below w.heap.size w W) => heldIntZ_any v.o c.out.length (k + c.queue.length + 2 * c.hands.length + c.results.length + c.ring.length) W (hv.o.carry (fun b hb => hW.block b (hP b hb)) (fun _ h => h)) (fun b hb => Nat.lt_of_lt_of_le (hP b hb) hW.size) (by omega))
 have HT := xH (fun (W : World) (hW : Below w.heap.size w W) => heldIntZ_any v.t c.got.length (k + c.queue.length + 2 * c.hands.length + c.results.length + c.ring.length + c.out.length) W (hv.t.carry (fun b hb => hW.block b (hP b hb)) (fun _ h => h)) (fun b hb => Nat.lt_of_lt_of_le (hP b hb) hW.size) (by omega))
 have HS := xH (fun (W : World) (hW : Below w.heap.size w W) => heldIntZ_any v.s c.shut.length (k + c.queue.length + 2 * c.hands.length + c.results.length + c.ring.length + c.out.length + c.got.length) W (hv.s.carry (fun b hb => hW.block b (hP b hb)) (fun _ h => h)) (fun b hb => Nat.lt_of_lt_of_le (hP b hb) hW.size) (by omega))
 have HR1 := xH (box18 w c1 v 26)
 have HB0 := xH hb0
 clear hv hP hb0
 go_enter Tryz.func31, Tryz.ntmps31
 go_wp2_with fail
 refine (xU HQ _ (xU HB0 _)).mono ?_
 rintro e w1 ⟨rfl, hb1⟩
 have q1 := (xU HR1).of_block (hb1.block w.heap.size (by simp))
 have B1 := xH ((xU HB0 _).trans (hb1.mono (xU HB0 _).size))
 have k6 : w1.cell? ⟨w.heap.size, 6, none⟩ = some v.h := q1.cell (i := 6) (by omega)
 have Q1 := xH q1
 clear hb1 q1 HR1 HB0
 go_wp2_with fail
 clear k6
 refine (xU HH _ (xU B1)).mono ?_
 rintro e w2 ⟨rfl, hb2⟩
 have q2 := (xU Q1).of_block (hb2.block _ (xU Q1).lt)
 have B2 := xH ((xU B1).trans (hb2.mono (xU B1).size))
 have k8 : w2.cell? ⟨w.heap.size, 8, none⟩ = some v.r := q2.cell (i := 8) (by omega)
 have Q2 := xH q2
 clear hb2 q2 Q1 B1
 go_wp2_with fail
 clear k8
 refine (xU HR _ (xU B2)).mono ?_
 rintro e w3 ⟨rfl, hb3⟩
 have q3 := (xU Q2).of_block (hb3.block _ (xU Q2).lt)
 have B3 := xH ((xU B2).trans (hb3.mono (xU B2).size))
 have k10 : w3.cell? ⟨w.heap.size, 10, none⟩ = some v.g := q3.cell (i := 10) (by omega)
 have Q3 := xH q3
 clear hb3 q3 Q2 B2
 go_wp2_with fail
 clear k10
 refine (xU HG _ (xU B3)).mono ?_
 rintro e w4 ⟨rfl, hb4⟩
 have q4 := (xU Q3).of_block (hb4.block _ (xU Q3).lt)
 have B4 := xH ((xU B3).trans (hb4.mono (xU B3).size))
 have k12 : w4.cell? ⟨w.heap.size, 12, none⟩ = some v.o := q4.cell (i := 12) (by omega)
 have Q4 := xH q4
 clear hb4 q4 Q3 B3
 go_wp2_with fail
 clear k12
 refine (xU HO _ (xU B4)).mono ?_
 rintro e w5 ⟨rfl, hb5⟩
 have q5 := (xU Q4).of_block (hb5.block _ (xU Q4).lt)
 have B5 := xH ((xU B4).trans (hb5.mono (xU B4).size))
 have k14 : w5.cell? ⟨w.heap.size, 14, none⟩ = some v.t := q5.cell (i := 14) (by omega)
 have Q5 := xH q5
 clear hb5 q5 Q4 B4
 go_wp2_with fail
 clear k14
 refine (xU HT _ (xU B5)).mono ?_
 rintro e w6 ⟨rfl, hb6⟩
 have q6 := (xU Q5).of_block (hb6.block _ (xU Q5).lt)
 have B6 := xH ((xU B5).trans (hb6.mono (xU B5).size))
 have k16 : w6.cell? ⟨w.heap.size, 16, none⟩ = some v.s := q6.cell (i := 16) (by omega)
 have Q6 := xH q6
 clear hb6 q6 Q5 B5
 go_wp2_with fail
 clear k16
 refine (xU HS _ (xU B6)).mono ?_
 rintro e w7 ⟨rfl, hb7⟩
 have q7 := (xU Q6).of_block (hb7.block _ (xU Q6).lt)
 have B7 := xH ((xU B6).trans (hb7.mono (xU B6).size))
 clear hb7 q7 Q6 B6
 go_wp2_with fail
 go_ret
 exact ⟨ret_i (by unfold mkC; omega), xU B7⟩

theorem sizesOk_any (j k n : Int) (w : World) : Calls Tryz.prog 93 #[.int .i64 j, .int .i64 k, .int .i64 n] w fun e w' => e = .returned (.bool (decide ((0 ≤ j ∧ j ≤ 60) ∧ (1 ≤ k ∧ k ≤ 8) ∧ (1 ≤ n ∧ n ≤ 16)))) ∧ Below w.heap.size w w' := by
 have HIN := xH (fun z lo hi W => frInP z lo hi W)
 go_enter Tryz.func93, Tryz.ntmps93
 go_wp2_with fail
 refine (xU HIN _ _ _ _).mono ?_
 rintro e w1 ⟨rfl, hb1⟩
 have B1 := xH hb1
 clear hb1
 by_cases h1 : 0 ≤ j ∧ j ≤ 60
 case neg =>
  have HF := xH (show decide ((0 ≤ j ∧ j ≤ 60) ∧ (1 ≤ k ∧ k ≤ 8) ∧ (1 ≤ n ∧ n ≤ 16)) = false from decide_eq_false fun h => h1 h.1)
  rw [decide_eq_false h1]
  clear h1
  go_wp2_with fail
  go_ret
  exact ⟨by rw [xU HF]; rfl, xU B1⟩
 rw [decide_eq_true h1]
 have H1 := xH h1
 clear h1
 go_wp2_with fail
 refine (xU HIN _ _ _ _).mono ?_
 rintro e w2 ⟨rfl, hb2⟩
 have B2 := xH ((xU B1).trans (hb2.mono (xU B1).size))
 clear hb2 B1
 by_cases h2 : 1 ≤ k ∧ k ≤ 8
 case neg =>
  have HF := xH (show decide ((0 ≤ j ∧ j ≤ 60) ∧ (1 ≤ k ∧ k ≤ 8) ∧ (1 ≤ n ∧ n ≤ 16)) = false from decide_eq_false fun h => h2 h.2.1)
  rw [decide_eq_false h2]
  clear h2
  go_wp2_with fail
  go_ret
  exact ⟨by rw [xU HF]; rfl, xU B2⟩
 rw [decide_eq_true h2]
 have HE := xH (show decide (1 ≤ n ∧ n ≤ 16) = decide ((0 ≤ j ∧ j ≤ 60) ∧ (1 ≤ k ∧ k ≤ 8) ∧ (1 ≤ n ∧ n ≤ 16)) from decide_eq_decide.2 ⟨fun h => ⟨xU H1, h2, h⟩, fun h => h.2.2⟩)
 clear h2
 go_wp2_with fail
 refine (xU HIN _ _ _ _).mono ?_
 rintro e w3 ⟨rfl, hb3⟩
 have B3 := xH ((xU B2).trans (hb3.mono (xU B2).size))
 clear hb3 B2
 generalize decide (1 ≤ n ∧ n ≤ 16) = b3 at HE ⊢
 go_wp2_with fail
 go_ret
 exact ⟨by rw [← xU HE]; rfl, xU B3⟩
def rg4 (v : Value) (first count shut : Int) (i : Nat) : Value := [v, .int .i64 first, .int .i64 count, .int .i64 shut].getD i undef
theorem newRing_any (n : Nat) (w : World) (hn : n ≤ 1048576) : Calls Tryz.prog 98 #[.int .i64 n] w fun e w' => e = .returned (.pointer (some ⟨w.heap.size + 1, 0, none⟩)) ∧ w'.rowIs (w.heap.size + 1) 102 4 (rg4 (.slice (some ⟨w.heap.size, 0, none⟩) n n) 0 0 0) ∧ w'.rowIs w.heap.size 3 n (fun _ => .int .i64 0) ∧ w'.heap.size = w.heap.size + 2 ∧ Below w.heap.size w w' := by
 have hmk := run_make_row' (P := Tryz.prog) 23 3 (.int .i64 0) 8 Tryz.underlying23 infoIntM rfl .i64 .i64 n (by omega) (by omega)
 go_enter Tryz.func98, Tryz.ntmps98
 go_wp2_with fail
 go_ret
 refine ⟨by simp, ?_, (World.rowIs_made w (.int .i64 0) n _).alloc _, by simp, ((Below.refl _ _).alloc (Nat.le_refl _) _).alloc (by simp) _⟩
 have := World.rowIs_alloc (w.alloc (.cells (madeCells #[.int .i64 0] n) 3)) #[.slice (some ⟨w.heap.size, 0, none⟩) n n, .int .i64 0, .int .i64 0, .int .i64 0] 102 (rg4 (.slice (some ⟨w.heap.size, 0, none⟩) n n) 0 0 0) (fun i hi => by
  have hi' : i < 4 := hi
  rcases (show i = 0 ∨ i = 1 ∨ i = 2 ∨ i = 3 by omega) with rfl | rfl | rfl | rfl <;> rfl)
 rw [World.size_alloc] at this
 exact this

theorem infoPlaceM : (Tryz.prog.info? 106).map (fun i => (i.zero, i.size, i.bytes)) = some (some (.agg #[]), 0, 0) := by kernel_rfl
theorem run_make_place (n : Nat) (hn : n ≤ 1048576) (w : World) : (Instr.makeSlice 98 (.int .i64 (n : Int)) (.int .i64 (n : Int))).run Tryz.prog w = .ok (.slice (some ⟨w.heap.size, 0, none⟩) n n) (w.alloc (.cells (madeCells #[] 0) 106)) := by
 obtain ⟨i, hi, hzz⟩ := Option.map_eq_some_iff.1 infoPlaceM
 simp only [Prod.mk.injEq] at hzz
 obtain ⟨hz, hs, hb⟩ := hzz
 have hr := run_make (P := Tryz.prog) w 98 106 i (.agg #[]) Tryz.underlying98 hi hz .i64 .i64 n n (by omega) (Int.le_refl _) (by rw [hb]; omega) (by omega)
 simp only [Int.toNat_natCast, hs, Nat.mul_zero] at hr
 exact hr
theorem newRingP_any (n : Nat) (w : World) (hn : n ≤ 1048576) : Calls Tryz.prog 99 #[.int .i64 n] w fun e w' => e = .returned (.pointer (some ⟨w.heap.size + 1, 0, none⟩)) ∧ w'.rowIs (w.heap.size + 1) 100 4 (rg4 (.slice (some ⟨w.heap.size, 0, none⟩) n n) 0 0 0) ∧ w'.heap.size = w.heap.size + 2 ∧ Below w.heap.size w w' := by
 have hmk := run_make_place n hn
 go_enter Tryz.func99, Tryz.ntmps99
 go_wp2_with fail
 go_ret
 refine ⟨by simp, ?_, by simp, ((Below.refl _ _).alloc (Nat.le_refl _) _).alloc (by simp) _⟩
 have := World.rowIs_alloc (w.alloc (.cells (madeCells #[] 0) 106)) #[.slice (some ⟨w.heap.size, 0, none⟩) n n, .int .i64 0, .int .i64 0, .int .i64 0] 100 (rg4 (.slice (some ⟨w.heap.size, 0, none⟩) n n) 0 0 0) (fun i hi => by
  have hi' : i < 4 := hi
  rcases (show i = 0 ∨ i = 1 ∨ i = 2 ∨ i = 3 by omega) with rfl | rfl | rfl | rfl <;> rfl)
 rw [World.size_alloc] at this
 exact this
end Go.Proofs.YtibgjcejddpldaaGreat
