/- A part. -/
import Derived.Test.YtibgjcejddpldaaGreatPart07
namespace Go.Proofs.YtibgjcejddpldaaGreat
open Go Go.RowKit
set_option maxRecDepth 100000
set_option maxHeartbeats 6400000
structure A7 where
 (q h r g o t s : Option Addr) (pq ph pr pg po pt ps : Nat)
def A7.v (A : A7) (c : Cw) : C7 := ⟨.slice A.q c.queue.length A.pq, .slice A.h c.hands.length A.ph, .slice A.r c.results.length A.pr, .slice A.g c.ring.length A.pg, .slice A.o c.out.length A.po, .slice A.t c.got.length A.pt, .slice A.s c.shut.length A.ps⟩
theorem CwAt.addr {P : Nat → Prop} {w : World} {c : Cw} {v : C7} (h : CwAt P w c v) : ∃ A : A7, v = A.v c := by
 obtain ⟨aq1, pq1, eq, -, -⟩ := h.q.open
 obtain ⟨ah1, ph1, eh, -, -⟩ := h.h.open
 obtain ⟨ar1, pr1, er, -, -⟩ := h.r.open
 obtain ⟨ag1, pg1, eg, -, -⟩ := h.g.open
 obtain ⟨ao1, po1, eo, -, -⟩ := h.o.open
 obtain ⟨at1, pt1, et, -, -⟩ := h.t.open
 obtain ⟨as1, ps1, es, -, -⟩ := h.s.open
 refine ⟨⟨aq1, ah1, ar1, ag1, ao1, at1, as1, pq1, ph1, pr1, pg1, po1, pt1, ps1⟩, ?_⟩
 cases v
 simp only at eq eh er eg eo et es
 subst eq eh er eg eo et es
 rfl
structure Ag (P : Nat → Prop) (w W : World) (c : Cw) (A : A7) : Prop where
 box : W.rowIs w.heap.size 26 18 (r18 [.int .i64 c.jobs, .int .i64 c.workers, .int .i64 c.window, .int .i64 c.next, .int .i64 c.reader, .slice A.q c.queue.length A.pq, .slice A.h c.hands.length A.ph, .int .i64 c.closer, .slice A.r c.results.length A.pr, .int .i64 c.keeper, .slice A.g c.ring.length A.pg, .int .i64 c.due, .slice A.o c.out.length A.po, .int .i64 c.user, .slice A.t c.got.length A.pt, .int .i64 c.room, .slice A.s c.shut.length A.ps, .int .i64 c.ops])
 at' : CwAt P W c (A.v c)
 lt : ∀ b, P b → b < w.heap.size
 bel : Below w.heap.size w W
theorem Ag.start {P : Nat → Prop} {w : World} {c : Cw} {A : A7} (h : CwAt P w c (A.v c)) (hP : ∀ b, P b → b < w.heap.size) : Ag P w (w.alloc (.cells #[.int .i64 c.jobs, .int .i64 c.workers, .int .i64 c.window, .int .i64 c.next, .int .i64 c.reader, .slice A.q c.queue.length A.pq, .slice A.h c.hands.length A.ph, .int .i64 c.closer, .slice A.r c.results.length A.pr, .int .i64 c.keeper, .slice A.g c.ring.length A.pg, .int .i64 c.due, .slice A.o c.out.length A.po, .int .i64 c.user, .slice A.t c.got.length A.pt, .int .i64 c.room, .slice A.s c.shut.length A.ps, .int .i64 c.ops] 26)) c A :=
 ⟨box18 w c (A.v c) 26, h.carry (fun b hb => Below.heap_alloc _ _ _ (hP b hb)) (fun _ h => h), hP, (Below.refl _ _).alloc (Nat.le_refl _) _⟩
theorem Ag.on {P : Nat → Prop} {w W W' : World} {c : Cw} {A : A7} (h : Ag P w W c A) (hb : Below W.heap.size W W') : Ag P w W' c A :=
 ⟨h.box.of_block (hb.block _ h.box.lt), h.at'.carry (fun b hp => hb.block b (Nat.lt_of_lt_of_le (h.lt b hp) h.bel.size)) (fun _ h => h), h.lt, h.bel.trans (hb.mono h.bel.size)⟩
theorem Ag.hand {P : Nat → Prop} {w W : World} {c : Cw} {A : A7} (h : Ag P w W c A) : CwAt P W c (A.v c) ∧ ∀ b, P b → b < W.heap.size := ⟨h.at', fun b hp => Nat.lt_of_lt_of_le (h.lt b hp) h.bel.size⟩
theorem Ag.range {P : Nat → Prop} {w W : World} {c : Cw} {A : A7} (h : Ag P w W c A) : W.rangeAt w.heap.size 0 [.int .i64 c.jobs, .int .i64 c.workers, .int .i64 c.window, .int .i64 c.next, .int .i64 c.reader, .slice A.q c.queue.length A.pq, .slice A.h c.hands.length A.ph, .int .i64 c.closer, .slice A.r c.results.length A.pr, .int .i64 c.keeper, .slice A.g c.ring.length A.pg, .int .i64 c.due, .slice A.o c.out.length A.po, .int .i64 c.user, .slice A.t c.got.length A.pt, .int .i64 c.room, .slice A.s c.shut.length A.ps, .int .i64 c.ops] := range_row [.int .i64 c.jobs, .int .i64 c.workers, .int .i64 c.window, .int .i64 c.next, .int .i64 c.reader, .slice A.q c.queue.length A.pq, .slice A.h c.hands.length A.ph, .int .i64 c.closer, .slice A.r c.results.length A.pr, .int .i64 c.keeper, .slice A.g c.ring.length A.pg, .int .i64 c.due, .slice A.o c.out.length A.po, .int .i64 c.user, .slice A.t c.got.length A.pt, .int .i64 c.room, .slice A.s c.shut.length A.ps, .int .i64 c.ops] rfl h.box
theorem Ag.k0 {P : Nat → Prop} {w W : World} {c : Cw} {A : A7} (h : Ag P w W c A) : W.cell? ⟨w.heap.size, 0, none⟩ = some (.int .i64 c.jobs) := h.box.cell (i := 0) (by omega)
theorem Ag.k1 {P : Nat → Prop} {w W : World} {c : Cw} {A : A7} (h : Ag P w W c A) : W.cell? ⟨w.heap.size, 1, none⟩ = some (.int .i64 c.workers) := h.box.cell (i := 1) (by omega)
theorem Ag.k2 {P : Nat → Prop} {w W : World} {c : Cw} {A : A7} (h : Ag P w W c A) : W.cell? ⟨w.heap.size, 2, none⟩ = some (.int .i64 c.window) := h.box.cell (i := 2) (by omega)
theorem Ag.k3 {P : Nat → Prop} {w W : World} {c : Cw} {A : A7} (h : Ag P w W c A) : W.cell? ⟨w.heap.size, 3, none⟩ = some (.int .i64 c.next) := h.box.cell (i := 3) (by omega)
theorem Ag.k4 {P : Nat → Prop} {w W : World} {c : Cw} {A : A7} (h : Ag P w W c A) : W.cell? ⟨w.heap.size, 4, none⟩ = some (.int .i64 c.reader) := h.box.cell (i := 4) (by omega)
theorem Ag.k5 {P : Nat → Prop} {w W : World} {c : Cw} {A : A7} (h : Ag P w W c A) : W.cell? ⟨w.heap.size, 5, none⟩ = some (.slice A.q c.queue.length A.pq) := h.box.cell (i := 5) (by omega)
theorem Ag.k6 {P : Nat → Prop} {w W : World} {c : Cw} {A : A7} (h : Ag P w W c A) : W.cell? ⟨w.heap.size, 6, none⟩ = some (.slice A.h c.hands.length A.ph) := h.box.cell (i := 6) (by omega)
theorem Ag.k7 {P : Nat → Prop} {w W : World} {c : Cw} {A : A7} (h : Ag P w W c A) : W.cell? ⟨w.heap.size, 7, none⟩ = some (.int .i64 c.closer) := h.box.cell (i := 7) (by omega)
theorem Ag.k8 {P : Nat → Prop} {w W : World} {c : Cw} {A : A7} (h : Ag P w W c A) : W.cell? ⟨w.heap.size, 8, none⟩ = some (.slice A.r c.results.length A.pr) := h.box.cell (i := 8) (by omega)
theorem Ag.k9 {P : Nat → Prop} {w W : World} {c : Cw} {A : A7} (h : Ag P w W c A) : W.cell? ⟨w.heap.size, 9, none⟩ = some (.int .i64 c.keeper) := h.box.cell (i := 9) (by omega)
theorem Ag.k10 {P : Nat → Prop} {w W : World} {c : Cw} {A : A7} (h : Ag P w W c A) : W.cell? ⟨w.heap.size, 10, none⟩ = some (.slice A.g c.ring.length A.pg) := h.box.cell (i := 10) (by omega)
theorem Ag.k11 {P : Nat → Prop} {w W : World} {c : Cw} {A : A7} (h : Ag P w W c A) : W.cell? ⟨w.heap.size, 11, none⟩ = some (.int .i64 c.due) := h.box.cell (i := 11) (by omega)
theorem Ag.k12 {P : Nat → Prop} {w W : World} {c : Cw} {A : A7} (h : Ag P w W c A) : W.cell? ⟨w.heap.size, 12, none⟩ = some (.slice A.o c.out.length A.po) := h.box.cell (i := 12) (by omega)
theorem Ag.k13 {P : Nat → Prop} {w W : World} {c : Cw} {A : A7} (h : Ag P w W c A) : W.cell? ⟨w.heap.size, 13, none⟩ = some (.int .i64 c.user) := h.box.cell (i := 13) (by omega)
theorem Ag.k14 {P : Nat → Prop} {w W : World} {c : Cw} {A : A7} (h : Ag P w W c A) : W.cell? ⟨w.heap.size, 14, none⟩ = some (.slice A.t c.got.length A.pt) := h.box.cell (i := 14) (by omega)
theorem Ag.k15 {P : Nat → Prop} {w W : World} {c : Cw} {A : A7} (h : Ag P w W c A) : W.cell? ⟨w.heap.size, 15, none⟩ = some (.int .i64 c.room) := h.box.cell (i := 15) (by omega)
theorem Ag.k16 {P : Nat → Prop} {w W : World} {c : Cw} {A : A7} (h : Ag P w W c A) : W.cell? ⟨w.heap.size, 16, none⟩ = some (.slice A.s c.shut.length A.ps) := h.box.cell (i := 16) (by omega)
theorem Ag.k17 {P : Nat → Prop} {w W : World} {c : Cw} {A : A7} (h : Ag P w W c A) : W.cell? ⟨w.heap.size, 17, none⟩ = some (.int .i64 c.ops) := h.box.cell (i := 17) (by omega)
theorem Ag.at_h {P : Nat → Prop} {w W : World} {c : Cw} {A : A7} (h : Ag P w W c A) (i : Nat) (hi : i < c.hands.length) : ∃ b o, A.h = some ⟨b, o, none⟩ ∧ W.cell? ⟨b, o + i * 2, none⟩ = some (.int .i64 c.hands[i].state) ∧ W.cell? ⟨b, o + i * 2 + 1, none⟩ = some (.int .i64 c.hands[i].job) := by
 obtain ⟨a, p, e, -, hc⟩ := h.at'.h.open
 simp only [A7.v, Value.slice.injEq] at e
 obtain ⟨rfl, -, -⟩ := e
 obtain ⟨b, o, e, -, h1, h2⟩ := hc i hi
 exact ⟨b, o, e, h1, h2⟩
theorem Ag.len_h {P : Nat → Prop} {w W : World} {c : Cw} {A : A7} (h : Ag P w W c A) : c.hands.length ≤ 9223372036854775807 := by
 obtain ⟨a, p, -, hl, -⟩ := h.at'.h.open
 exact hl
theorem Ag.at_g {P : Nat → Prop} {w W : World} {c : Cw} {A : A7} (h : Ag P w W c A) (i : Nat) (hi : i < c.ring.length) : ∃ b o, A.g = some ⟨b, o, none⟩ ∧ W.cell? ⟨b, o + i, none⟩ = some (.int .i64 c.ring[i]) := by
 obtain ⟨a, p, e, -, hc⟩ := h.at'.g.open
 simp only [A7.v, Value.slice.injEq] at e
 obtain ⟨rfl, -, -⟩ := e
 obtain ⟨b, o, e, -, h1⟩ := hc i hi
 exact ⟨b, o, e, h1⟩
theorem Ag.at_o {P : Nat → Prop} {w W : World} {c : Cw} {A : A7} (h : Ag P w W c A) (i : Nat) (hi : i < c.out.length) : ∃ b o, A.o = some ⟨b, o, none⟩ ∧ W.cell? ⟨b, o + i, none⟩ = some (.int .i64 c.out[i]) := by
 obtain ⟨a, p, e, -, hc⟩ := h.at'.o.open
 simp only [A7.v, Value.slice.injEq] at e
 obtain ⟨rfl, -, -⟩ := e
 obtain ⟨b, o, e, -, h1⟩ := hc i hi
 exact ⟨b, o, e, h1⟩
theorem Ag.at_t {P : Nat → Prop} {w W : World} {c : Cw} {A : A7} (h : Ag P w W c A) (i : Nat) (hi : i < c.got.length) : ∃ b o, A.t = some ⟨b, o, none⟩ ∧ W.cell? ⟨b, o + i, none⟩ = some (.int .i64 c.got[i]) := by
 obtain ⟨a, p, e, -, hc⟩ := h.at'.t.open
 simp only [A7.v, Value.slice.injEq] at e
 obtain ⟨rfl, -, -⟩ := e
 obtain ⟨b, o, e, -, h1⟩ := hc i hi
 exact ⟨b, o, e, h1⟩
theorem Ag.len_t {P : Nat → Prop} {w W : World} {c : Cw} {A : A7} (h : Ag P w W c A) : c.got.length ≤ 9223372036854775807 := by
 obtain ⟨a, p, -, hl, -⟩ := h.at'.t.open
 exact hl
theorem Ag.at_s {P : Nat → Prop} {w W : World} {c : Cw} {A : A7} (h : Ag P w W c A) (i : Nat) (hi : i < c.shut.length) : ∃ b o, A.s = some ⟨b, o, none⟩ ∧ W.cell? ⟨b, o + i, none⟩ = some (.int .i64 c.shut[i]) := by
 obtain ⟨a, p, e, -, hc⟩ := h.at'.s.open
 simp only [A7.v, Value.slice.injEq] at e
 obtain ⟨rfl, -, -⟩ := e
 obtain ⟨b, o, e, -, h1⟩ := hc i hi
 exact ⟨b, o, e, h1⟩

def z3 : Array Value := #[.int .i64 0, .slice none 0 0, .slice none 0 0]

def FLaid (w wr : World) (t n : Nat) (rs : List (List Value)) (k : Nat) : Prop :=
 ∃ f, wr.rowIs w.heap.size t (rs.length * n) f ∧ ∀ i, i < k → (h : i < rs.length) → ∀ j, j < n → f (i * n + j) = rs[i].getD j undef
theorem FLaid.start (w : World) (t n : Nat) (z : Array Value) (rs : List (List Value)) : FLaid w (w.alloc (.cells (madeCells z (rs.length * n)) t)) t n rs 0 := by
 have hrow := World.rowIs_alloc w (madeCells z (rs.length * n)) t (fun i => (madeCells z (rs.length * n))[i]?.getD undef) (fun i hi => by simp [hi])
 rw [size_madeCells] at hrow
 exact ⟨_, hrow, fun i hi => by omega⟩
theorem FLaid.step3 {w wr w' : World} {t : Nat} {rs : List (List Value)} {k : Nat} (hlt : k < rs.length) (hL : FLaid w wr t 3 rs k) (hb' : Below wr.heap.size wr w') (c0 c1 c2 : Value) (hr : rs[k] = [c0, c1, c2]) :
 FLaid w (((w'.setCell ⟨w.heap.size, k * 3, none⟩ c0).setCell ⟨w.heap.size, k * 3 + 1, none⟩ c1).setCell ⟨w.heap.size, k * 3 + 2, none⟩ c2) t 3 rs (k + 1) := by
 obtain ⟨f, hrow, hf⟩ := hL
 have hrow' := hrow.of_block (hb'.block _ hrow.lt)
 refine ⟨_, ((hrow'.set (k * 3) c0).set (k * 3 + 1) c1).set (k * 3 + 2) c2, fun i hi hil j hj => ?_⟩
 by_cases e : i = k
 · subst e
   rw [hr]
   rcases (show j = 0 ∨ j = 1 ∨ j = 2 by omega) with rfl | rfl | rfl <;> simp
 · rw [if_neg (by omega), if_neg (by omega), if_neg (by omega)]
   exact hf i (by omega) hil j hj
theorem FLaid.step2 {w wr w' : World} {t : Nat} {rs : List (List Value)} {k : Nat} (hlt : k < rs.length) (hL : FLaid w wr t 2 rs k) (hb' : Below wr.heap.size wr w') (c0 c1 : Value) (hr : rs[k] = [c0, c1]) :
 FLaid w ((w'.setCell ⟨w.heap.size, k * 2, none⟩ c0).setCell ⟨w.heap.size, k * 2 + 1, none⟩ c1) t 2 rs (k + 1) := by
 obtain ⟨f, hrow, hf⟩ := hL
 have hrow' := hrow.of_block (hb'.block _ hrow.lt)
 refine ⟨_, (hrow'.set (k * 2) c0).set (k * 2 + 1) c1, fun i hi hil j hj => ?_⟩
 by_cases e : i = k
 · subst e
   rw [hr]
   rcases (show j = 0 ∨ j = 1 by omega) with rfl | rfl <;> simp
 · rw [if_neg (by omega), if_neg (by omega)]
   exact hf i (by omega) hil j hj

def allE (hs : List Hd) : Bool := hs.all (fun h => h.state == 3)
def anyE (hs : List Hd) : Bool := hs.any (fun h => h.state == 3)
def busyH (h : Hd) : Bool := h.state == 1 || h.state == 2
def handOk (h : Hd) : Prop := (0 ≤ h.state ∧ h.state ≤ 3) ∧ (busyH h = false → h.job = 0)
def dueAt (c : Cw) : Nat := c.due.toNat % c.ring.length
def dueIn (c : Cw) : Bool := c.ring.getD (dueAt c) 0 == c.due
def rdL (s : Int) : Int := if s = 0 then 2 else if s = 1 then 12 else if s = 2 then 1 else 0
def wkL (s : Int) : Int := if s = 0 then 1 else if s = 1 then 9 else if s = 2 then 8 else 0
def kpL (s : Int) : Int := if s = 0 then 2 else if s = 1 then 3 else if s = 2 then 2 else if s = 3 then 4 else if s = 4 then 1 else 0
def sumH (hs : List Hd) : Int := (hs.map (fun h => wkL h.state)).sum
def sumG (gs : List Int) : Int := (gs.map (fun z => if 0 ≤ z then (4 : Int) else 0)).sum
def leftZ (c : Cw) : Int := 11 * (c.jobs - c.next) + 9 * c.queue.length + 6 * c.results.length + c.out.length + rdL c.reader + (1 - c.closer) + kpL c.keeper + (1 - c.user) + sumH c.hands + sumG c.ring
structure Form (c : Cw) : Prop where
 st : stOk c.jobs c.workers c.window
 next : 0 ≤ c.next ∧ c.next ≤ c.jobs
 due : 0 ≤ c.due ∧ c.due ≤ c.next
 room : 0 ≤ c.room ∧ c.room ≤ c.window
 ops : 0 ≤ c.ops ∧ c.ops ≤ 10000
 hands : (c.hands.length : Int) = c.workers
 ring : (c.ring.length : Int) = c.window
 shut : c.shut.length = 4
 queue : (c.queue.length : Int) ≤ c.workers
 results : (c.results.length : Int) ≤ c.workers
 out : c.out.length ≤ 1
 shuts : ∀ z ∈ c.shut, 0 ≤ z ∧ z ≤ 1
 handsOk : ∀ h ∈ c.hands, handOk h
 reader : 0 ≤ c.reader ∧ c.reader ≤ 3
 closer : 0 ≤ c.closer ∧ c.closer ≤ 1
 keeper : 0 ≤ c.keeper ∧ c.keeper ≤ 5
 user : 0 ≤ c.user ∧ c.user ≤ 1
theorem Form.small {c : Cw} (h : Form c) : c.hands.length ≤ 8 ∧ 0 < c.hands.length ∧ c.ring.length ≤ 16 ∧ 0 < c.ring.length ∧ c.queue.length ≤ 8 ∧ c.results.length ≤ 8 ∧ c.jobs ≤ 60 ∧ 0 ≤ c.jobs := by
 obtain ⟨⟨a1, a2⟩, ⟨a3, a4⟩, ⟨a5, a6⟩⟩ := h.st
 have := h.hands; have := h.ring; have := h.queue; have := h.results
 omega
theorem wkL_bound (s : Int) : 0 ≤ wkL s ∧ wkL s ≤ 9 := by unfold wkL; split <;> (try split) <;> (try split) <;> omega
theorem rdL_bound (s : Int) : 0 ≤ rdL s ∧ rdL s ≤ 12 := by unfold rdL; split <;> (try split) <;> (try split) <;> omega
theorem kpL_bound (s : Int) : 0 ≤ kpL s ∧ kpL s ≤ 4 := by unfold kpL; split <;> (try split) <;> (try split) <;> (try split) <;> (try split) <;> omega
theorem sumH_bound : ∀ (hs : List Hd), 0 ≤ sumH hs ∧ sumH hs ≤ 9 * hs.length
 | [] => by simp [sumH]
 | h :: r => by
     have := sumH_bound r; have := wkL_bound h.state
     simp only [sumH, List.map_cons, List.sum_cons, List.length_cons] at *
     omega
theorem sumG_bound : ∀ (gs : List Int), 0 ≤ sumG gs ∧ sumG gs ≤ 4 * gs.length
 | [] => by simp [sumG]
 | h :: r => by
     have := sumG_bound r
     simp only [sumG, List.map_cons, List.sum_cons, List.length_cons] at *
     split <;> omega
theorem sumH_take (hs : List Hd) (k : Nat) (hk : k < hs.length) : sumH (hs.take (k + 1)) = sumH (hs.take k) + wkL hs[k].state := by
 rw [List.take_succ_eq_append_getElem hk]
 unfold sumH
 rw [List.map_append, List.sum_append]
 simp only [List.map_cons, List.map_nil, List.sum_cons, List.sum_nil, Int.add_zero]
theorem sumG_take (gs : List Int) (k : Nat) (hk : k < gs.length) : sumG (gs.take (k + 1)) = sumG (gs.take k) + (if 0 ≤ gs[k] then 4 else 0) := by
 rw [List.take_succ_eq_append_getElem hk]
 unfold sumG
 rw [List.map_append, List.sum_append]
 simp only [List.map_cons, List.map_nil, List.sum_cons, List.sum_nil, Int.add_zero]

theorem append_list {P : Program} (w : World) {ops : Array Oper} {rest : List Oper} {o : Oper} {a : Act} {Q : Exit → Act → World → Prop}
 (hg : o.guard = none) (s x : Operand) (t : TypeId) (hop : o.op = Op.call { callee := Callee.builtin Builtin.append, args := #[s, x], argTypes := #[t, t] })
 (base : Nat) (e : TypeId) (i : TypeInfo) (z : Value) (size bytes : Nat) (h1 : P.underlying t = some (.slice e)) (h2 : P.info? e = some i) (h3 : i.zero = some z) (h4 : i.size = size) (h5 : i.bytes = bytes) (h6 : z.cells.size = size) (h7 : 0 < size)
 (a0 : Option Addr) (n cap : Nat) (xs : List Value) (hs : a.eval s = .slice a0 n cap) (hown : w.ownsRow base e size (.slice a0 n cap) n xs)
 (ax : Option Addr) (m c : Nat) (ys : List Value) (hx : a.eval x = .slice ax m c) (hn : ys.length = m * size) (hc : 0 < m → ∃ ad, ax = some ad ∧ ∀ j u, ys[j]? = some u → w.cell? (ad.add j) = some u) (h1c : ∀ u ∈ ys, u.oneCell' = true)
 (b1 : n + m ≤ maxLen) (b2 : (n + m) * bytes ≤ 140737488355328) (hbase : base ≤ w.heap.size)
 (hK : ∀ a' cap' w', Hid (w'.ownsRow base e size (.slice a' (n + m) cap') (n + m) (xs ++ ys)) → Hid (w.grownBy w' (Value.slice a0 n cap).ownBlock) → wpList P ops Q rest (a.put o.dst (.slice a' (n + m) cap')) w') :
 wpList P ops Q (o :: rest) a w := by
 rcases Nat.eq_zero_or_pos m with h0 | h0
 · subst h0
   have hys : ys = [] := List.eq_nil_of_length_eq_zero (by rw [hn]; omega)
   subst hys
   have hcap : n ≤ cap := own_capT hown
   have hrun : ∀ ty, (Builtin.append_ #[t, t] ty #[.slice a0 n cap, .slice ax 0 c]).run P w = .ok (.slice a0 n cap) w := fun ty => by
    cases a0 with
    | none => cases ax <;> simp [Builtin.append_, run_underlying h1, sizeOf, typeInfo, h2, Builtin.lenOf, Builtin.firstCells, go_sem, hcap]
    | some a1 => cases ax <;> simp [Builtin.append_, run_underlying h1, sizeOf, typeInfo, h2, Builtin.lenOf, Builtin.firstCells, go_sem, hcap]
   refine wpList_plain hg fun K hKK => ?_
   unfold Oper.wp execOp
   simp only [hop, resolve, invoke, builtin, Sem.run_bind, Sem.run_pure, Result.andThen_ok, List.map_toArray, List.map_cons, List.map_nil, hs, hx, hrun]
   exact hKK _ _ (hK a0 cap w (by rw [Nat.add_zero, List.append_nil]; exact hown) (World.grownBy.refl w _))
 · obtain ⟨ad, rfl, hcc⟩ := hc h0
   refine append_row w hg s x t hop base e i z size bytes h1 h2 h3 h4 h5 h6 h7 (.slice a0 n cap) n xs hs hown ad m c ys hx hn hcc h1c h0 b1 b2 hbase (fun v' w' r1 r2 _ => ?_)
   obtain ⟨g, cap', rfl, -, -⟩ := r1.form (by omega)
   exact hK _ cap' w' r1 r2
theorem Ag.grown {P : Nat → Prop} {w W W' : World} {c : Cw} {A : A7} {v : Value} (h : Ag P w W c A) (hg : W.grownBy W' v.ownBlock) (hv : ∀ g, v.ownBlock = some g → w.heap.size + 1 ≤ g) : Ag P w W' c A := by
 have hno : ∀ x, x ≤ w.heap.size → some x ≠ v.ownBlock := fun x hx e => by have := hv x e.symm; omega
 refine ⟨h.box.of_block (hg.block _ h.box.lt (hno _ (Nat.le_refl _))), h.at'.carry (fun b hp => hg.block b (Nat.lt_of_lt_of_le (h.lt b hp) h.bel.size) (hno b (Nat.le_of_lt (h.lt b hp)))) (fun _ h => h), h.lt, h.bel.grown hg h.bel.size (fun g e => by have := hv g e; omega)⟩
theorem ZAt.src {P : Nat → Prop} {W : World} {a : Option Addr} {n p : Nat} {zs : List Int} (h : ZAt P W (.slice a n p) zs) : 0 < n → ∃ ad, a = some ad ∧ ∀ j u, (zs.map zcs).flatten[j]? = some u → W.cell? (ad.add j) = some u := by
 obtain ⟨a', p', e, -, hc⟩ := h.open
 simp only [Value.slice.injEq] at e
 obtain ⟨rfl, rfl, rfl⟩ := e
 intro h0
 obtain ⟨b, o, rfl, -, -⟩ := hc 0 h0
 refine ⟨_, rfl, fun j u hj => ?_⟩
 rw [zflat_map, List.getElem?_map] at hj
 obtain ⟨x, hx, rfl⟩ := Option.map_eq_some_iff.1 hj
 obtain ⟨hlt, rfl⟩ := List.getElem?_eq_some_iff.1 hx
 obtain ⟨b', o', e3, -, hcell⟩ := hc j hlt
 simp only [Option.some.injEq, Addr.mk.injEq, and_true] at e3
 obtain ⟨rfl, rfl⟩ := e3
 rw [Addr.add_lit]
 exact hcell
structure Pl (P : Nat → Prop) (w W : World) (c : Cw) (A : A7) (a : Option Addr) (n cap : Nat) (l : List Int) : Prop where
 ag : Ag P w W c A
 own : W.ownsRow (w.heap.size + 1) 3 1 (.slice a n cap) n (l.map zcs).flatten
 len : n = l.length
theorem Pl.on {P : Nat → Prop} {w W W' : World} {c : Cw} {A : A7} {a : Option Addr} {n cap : Nat} {l : List Int} (h : Pl P w W c A a n cap l) (hb : Below W.heap.size W W') : Pl P w W' c A a n cap l :=
 ⟨h.ag.on hb, ownsRow_keepT h.own (fun g e => hb.block g (h.own.lt g e).2), h.len⟩
theorem Pl.add {P : Nat → Prop} {w W W' : World} {c : Cw} {A : A7} {a a' : Option Addr} {n m cap cap' : Nat} {l : List Int} (h : Pl P w W c A a n cap l) (zs : List Int) (hm : m = zs.length) (ho : W'.ownsRow (w.heap.size + 1) 3 1 (.slice a' (n + m) cap') (n + m) ((l.map zcs).flatten ++ (zs.map zcs).flatten)) (hg : W.grownBy W' (Value.slice a n cap).ownBlock) : Pl P w W' c A a' (n + m) cap' (l ++ zs) :=
 ⟨h.ag.grown hg (fun g e => (h.own.lt g e).1), by rw [List.map_append, List.flatten_append]; exact ho, by rw [List.length_append, h.len, hm]⟩
theorem Pl.start {P : Nat → Prop} {w : World} {c : Cw} {A : A7} {W : World} (h : Ag P w W c A) (hs : W.heap.size = w.heap.size + 1) : Pl P w (W.alloc (.cells #[] 3)) c A (some ⟨W.heap.size, 0, none⟩) 0 0 [] :=
 ⟨h.on ((Below.refl _ _).alloc (Nat.le_refl _) _), ⟨rfl, Or.inr ⟨W.heap.size, 0, #[], rfl, by omega, World.heap_alloc_newC _ _, Nat.le_refl _, by unfold maxLen; omega, rfl, rfl⟩⟩, rfl⟩
theorem zflat_oneC (zs : List Int) : ∀ u ∈ (zs.map zcs).flatten, u.oneCell' = true := by
 rw [zflat_map]
 intro u hu
 obtain ⟨z, -, rfl⟩ := List.mem_map.1 hu
 rfl
theorem zflat_lenC (zs : List Int) : (zs.map zcs).flatten.length = zs.length * 1 := by
 rw [zflat_map, List.length_map, Nat.mul_one]
def placesL (c : Cw) : List Int := (if c.reader = 1 then [c.next - 1] else []) ++ c.queue ++ ((c.hands.filter busyH).map Hd.job) ++ c.results ++ c.ring.filter (fun z => decide (0 ≤ z))

def PlV (P : Nat → Prop) (w W : World) (c : Cw) (A : A7) (v : Value) (l : List Int) : Prop := ∃ a n cap, v = .slice a n cap ∧ Pl P w W c A a n cap l
def rd1 (c : Cw) : List Int := if c.reader = 1 then [c.next - 1] else []
theorem rd1_len (c : Cw) : (rd1 c).length ≤ 1 := by unfold rd1; split <;> simp
theorem l51Places_any (c : Cw) (A : A7) (P : Nat → Prop) (w : World) (h : CwAt P w c (A.v c)) (hP : ∀ b, P b → b < w.heap.size) (hF : Form c) : Calls Tryz.prog 91 #[.agg #[.int .i64 c.jobs, .int .i64 c.workers, .int .i64 c.window, .int .i64 c.next, .int .i64 c.reader, .slice A.q c.queue.length A.pq, .slice A.h c.hands.length A.ph, .int .i64 c.closer, .slice A.r c.results.length A.pr, .int .i64 c.keeper, .slice A.g c.ring.length A.pg, .int .i64 c.due, .slice A.o c.out.length A.po, .int .i64 c.user, .slice A.t c.got.length A.pt, .int .i64 c.room, .slice A.s c.shut.length A.ps, .int .i64 c.ops]] w fun e w' => ∃ a cap, e = .returned (.slice a (placesL c).length cap) ∧ w'.ownsRow (w.heap.size + 1) 3 1 (.slice a (placesL c).length cap) (placesL c).length ((placesL c).map zcs).flatten ∧ Below w.heap.size w w' := by
 have HS := xH (Ag.start h hP)
 obtain ⟨s1, s2, s3, s4, s5, s6, s7, s8⟩ := hF.small
 have n1 := hF.next.1; have n2 := hF.next.2
 obtain ⟨j1, hI, hI0, hI1, hI2⟩ := info_parts infoIntM
 have HI := xH hI; have HI0 := xH hI0; have HI1 := xH hI1; have HI2 := xH hI2
 have HPL := xH (show placesL c = rd1 c ++ c.queue ++ ((c.hands.filter busyH).map Hd.job) ++ c.results ++ c.ring.filter (fun z => decide (0 ≤ z)) from rfl)
 have hsz : (w.alloc (.cells #[.int .i64 c.jobs, .int .i64 c.workers, .int .i64 c.window, .int .i64 c.next, .int .i64 c.reader, .slice A.q c.queue.length A.pq, .slice A.h c.hands.length A.ph, .int .i64 c.closer, .slice A.r c.results.length A.pr, .int .i64 c.keeper, .slice A.g c.ring.length A.pg, .int .i64 c.due, .slice A.o c.out.length A.po, .int .i64 c.user, .slice A.t c.got.length A.pt, .int .i64 c.room, .slice A.s c.shut.length A.ps, .int .i64 c.ops] 26)).heap.size = w.heap.size + 1 := by simp
 have HSZ := xH hsz
 clear h hP hF hI hI0 hI1 hI2 hsz
 go_enter Tryz.func91, Tryz.ntmps91
 go_upto_region 1 with fail
 have HP0 := xH (Pl.start (xU HS) (xU HSZ))
 generalize w.alloc (.cells #[.int .i64 c.jobs, .int .i64 c.workers, .int .i64 c.window, .int .i64 c.next, .int .i64 c.reader, .slice A.q c.queue.length A.pq, .slice A.h c.hands.length A.ph, .int .i64 c.closer, .slice A.r c.results.length A.pr, .int .i64 c.keeper, .slice A.g c.ring.length A.pg, .int .i64 c.due, .slice A.o c.out.length A.po, .int .i64 c.user, .slice A.t c.got.length A.pt, .int .i64 c.room, .slice A.s c.shut.length A.ps, .int .i64 c.ops] 26) = W0 at HS HP0 HSZ ⊢
 go_upto_region 2 with fail
 generalize W0.alloc (.cells #[] 3) = W1 at HP0 ⊢
 go_cut [9] from 7 to 9 (fun x wx => x = .bool (c.reader == 1) ∧ wx = W1)
 case first =>
  have k4 := (xU HP0).ag.k4
  go_wp2_with fail
  go_meet
  case rel => exact ⟨rfl, rfl⟩
 case rest =>
  obtain ⟨rfl, rfl⟩ := hcut
  clear HS HSZ
  generalize W0.heap.size = g0 at HP0 ⊢
  clear W0
  go_upto_if 9 with fail
  go_cut [3, 9] from 10 to 15 (fun v _ wx => PlV P w wx c A v (rd1 c))
  case first =>
   by_cases hr : c.reader = 1
   · have hq : (c.reader == 1) = true := by simp [hr]
     have HR := xH (show rd1 c = [] ++ [c.next - 1] from by unfold rd1; rw [if_pos hr]; rfl)
     have hwr : IntKind.i64.wrap (c.next - 1) = c.next - 1 := by rw [IntKind.wrap_i64]; omega
     have k3 := (xU HP0).ag.k3
     clear hr
     go_wp2_with (at_builtin; refine append_row _ rfl _ _ 23 rfl (w.heap.size + 1) 3 j1 (.int .i64 0) 1 8 Tryz.underlying23 (xU HI) (xU HI0) (xU HI1) (xU HI2) rfl (by decide) (.slice (some ⟨g0, 0, none⟩) 0 0) 0 (([]).map zcs).flatten rfl (World.ownsRow.alloc (xU HP0).own _) ⟨wc.heap.size, 0, none⟩ 1 1 [.int .i64 (c.next - 1)] rfl rfl (cell_one wc _ _) (fun u hu => by simp at hu; subst hu; rfl) (by decide) (by unfold maxLen; omega) (by omega) (by have := (xU HP0).ag.bel.size; have := (xU HP0).ag.box.lt; simp; omega) ?_; intro v' w8 hown8 hgrow8 hat8; obtain ⟨g8, cap8, rfl, hg1, hg2⟩ := hown8.form (by omega); have HP1 := xH (((xU HP0).on ((Below.refl _ _).alloc (Nat.le_refl _) (.cells #[.int .i64 (c.next - 1)] 3))).add [c.next - 1] rfl hown8 hgrow8); clear hown8 hgrow8 hat8)
     go_meet
     case rel => exact ⟨_, _, _, rfl, by rw [xU HR]; exact xU HP1⟩
   · have hq : (c.reader == 1) = false := by simp [hr]
     have HR := xH (show rd1 c = [] from by unfold rd1; rw [if_neg hr])
     clear hr
     go_wp2_with fail
     go_meet
     case rel => exact ⟨_, _, _, rfl, by rw [xU HR]; exact xU HP0⟩
  case rest =>
   obtain ⟨a, n, cap, rfl, hp⟩ := hcut
   have HP2 := xH hp
   have hnl := hp.len
   have hn1 : n ≤ 1 := by rw [hnl]; exact rd1_len c
   clear hp hnl HP0
   have k5 := (xU HP2).ag.k5
   have HSRC := xH ((xU HP2).ag.at'.q).src
   go_wp2_with (at_builtin; refine append_list _ rfl _ _ 23 rfl (w.heap.size + 1) 3 j1 (.int .i64 0) 1 8 Tryz.underlying23 (xU HI) (xU HI0) (xU HI1) (xU HI2) rfl (by decide) a n cap ((rd1 c).map zcs).flatten rfl (xU HP2).own A.q c.queue.length A.pq (c.queue.map zcs).flatten rfl (zflat_lenC _) (xU HSRC) (zflat_oneC _) (by unfold maxLen; omega) (by omega) (by have := (xU HP2).ag.bel.size; have := (xU HP2).ag.box.lt; omega) ?_; intro a4 cap4 w4 ho4 hg4; have HP4 := xH ((xU HP2).add c.queue rfl (xU ho4) (xU hg4)); clear ho4 hg4)
   have HLB := xH (show ∀ k, ((c.hands.take k).filter busyH).length ≤ c.hands.length from fun k => Nat.le_trans (List.length_filter_le _ _) (by rw [List.length_take]; omega))
   clear k5 HSRC HP2
   go_loopw [3, 4] (fun v i wr => ∃ (k : Nat) (a : Option Addr) (n cap : Nat), k ≤ c.hands.length ∧ i = .int .i64 k ∧ v = .slice a n cap ∧ Hid (Pl P w wr c A a n cap (rd1 c ++ c.queue ++ (((c.hands.take k).filter busyH).map Hd.job)))) (fun _ i _ => c.hands.length - (intOf i).toNat)
   case atStart => exact ⟨0, _, _, _, Nat.zero_le _, rfl, rfl, by rw [List.take_zero, List.filter_nil, List.map_nil, List.append_nil]; exact HP4⟩
   case round =>
    obtain ⟨k, a, n, cap, hk, rfl, rfl, HP5⟩ := hrel
    have k6 := HP5.out.ag.k6
    have hn9 : n ≤ 40 := by
     rw [HP5.out.len]
     simp only [List.length_append, List.length_map]
     have := rd1_len c; have := xU HLB k
     omega
    by_cases hlt : k < c.hands.length
    · obtain ⟨b, o, ha, e0, e1⟩ := HP5.out.ag.at_h k hlt
      rw [ha] at k6
      clear ha
      have htk : (c.hands.take (k + 1)).filter busyH = (c.hands.take k).filter busyH ++ (if busyH c.hands[k] then [c.hands[k]] else []) := by
       rw [List.take_succ_eq_append_getElem hlt, List.filter_append]
       congr 1
       by_cases hb : busyH c.hands[k] = true <;> simp [hb]
      have HTK := xH htk
      clear htk
      generalize c.hands[k] = hd at e0 e1 HTK
      obtain ⟨st, jb⟩ := hd
      simp only at e0 e1
      by_cases hbz : busyH ⟨st, jb⟩ = true
      · have HTK2 := xH (show rd1 c ++ c.queue ++ (((c.hands.take (k + 1)).filter busyH).map Hd.job) = (rd1 c ++ c.queue ++ (((c.hands.take k).filter busyH).map Hd.job)) ++ [jb] from by
         rw [xU HTK, if_pos hbz, List.map_append, List.append_assoc]; simp)
        clear HTK
        have k6a := fun ob => (HP5.out.ag.on ((Below.refl _ wr).alloc (Nat.le_refl _) ob)).k6
        generalize rd1 c ++ c.queue ++ (((c.hands.take k).filter busyH).map Hd.job) = l5 at HP5 HTK2
        by_cases s1 : st = 1
        · have q1 : (st == 1) = true := by simp [s1]
          clear s1 hbz
          go_wp2_with (at_builtin; refine append_row _ rfl _ _ 23 rfl (w.heap.size + 1) 3 j1 (.int .i64 0) 1 8 Tryz.underlying23 (xU HI) (xU HI0) (xU HI1) (xU HI2) rfl (by decide) (.slice a n cap) n ((l5).map zcs).flatten rfl (World.ownsRow.alloc (HP5.out).own _) ⟨wr.heap.size, 0, none⟩ 1 1 [.int .i64 (jb)] rfl rfl (cell_one wr _ _) (fun u hu => by simp at hu; subst hu; rfl) (by decide) (by unfold maxLen; omega) (by omega) (by have := (HP5.out).ag.bel.size; have := (HP5.out).ag.box.lt; simp; omega) ?_; intro v' w8 hown8 hgrow8 hat8; obtain ⟨g8, cap8, rfl, hg1, hg2⟩ := hown8.form (by omega); have HP6 := xH (((HP5.out).on ((Below.refl _ _).alloc (Nat.le_refl _) (.cells #[.int .i64 (jb)] 3))).add [jb] rfl hown8 hgrow8); clear hown8 hgrow8 hat8)
          go_roundw
          case rel => exact ⟨k + 1, _, _, _, by omega, by go_num, rfl, by rw [xU HTK2]; exact HP6⟩
          case measure => simp [intOf]; omega
        · have q1 : (st == 1) = false := by simp [s1]
          have q2 : (st == 2) = true := by simpa [busyH, s1] using hbz
          clear s1 hbz
          go_wp2_with (at_builtin; refine append_row _ rfl _ _ 23 rfl (w.heap.size + 1) 3 j1 (.int .i64 0) 1 8 Tryz.underlying23 (xU HI) (xU HI0) (xU HI1) (xU HI2) rfl (by decide) (.slice a n cap) n ((l5).map zcs).flatten rfl (World.ownsRow.alloc (HP5.out).own _) ⟨wr.heap.size, 0, none⟩ 1 1 [.int .i64 (jb)] rfl rfl (cell_one wr _ _) (fun u hu => by simp at hu; subst hu; rfl) (by decide) (by unfold maxLen; omega) (by omega) (by have := (HP5.out).ag.bel.size; have := (HP5.out).ag.box.lt; simp; omega) ?_; intro v' w8 hown8 hgrow8 hat8; obtain ⟨g8, cap8, rfl, hg1, hg2⟩ := hown8.form (by omega); have HP6 := xH (((HP5.out).on ((Below.refl _ _).alloc (Nat.le_refl _) (.cells #[.int .i64 (jb)] 3))).add [jb] rfl hown8 hgrow8); clear hown8 hgrow8 hat8)
          go_roundw
          case rel => exact ⟨k + 1, _, _, _, by omega, by go_num, rfl, by rw [xU HTK2]; exact HP6⟩
          case measure => simp [intOf]; omega
      · have HTK2 := xH (show rd1 c ++ c.queue ++ (((c.hands.take (k + 1)).filter busyH).map Hd.job) = rd1 c ++ c.queue ++ (((c.hands.take k).filter busyH).map Hd.job) from by
         rw [xU HTK, if_neg hbz, List.append_nil])
        have q1 : (st == 1) = false := by cases e : (st == 1) <;> simp_all [busyH]
        have q2 : (st == 2) = false := by cases e : (st == 2) <;> simp_all [busyH]
        clear HTK hbz
        go_wp2_with fail
        go_roundw
        case rel => exact ⟨k + 1, _, _, _, by omega, by go_num, rfl, by rw [xU HTK2]; exact HP5⟩
        case measure => simp [intOf]; omega
    · obtain rfl : k = c.hands.length := by omega
      have HP7 := HP5
      rw [List.take_length] at HP7
      clear HP5 HLB HP4
      have HB3 := xH (show (rd1 c ++ c.queue ++ ((c.hands.filter busyH).map Hd.job)).length ≤ 40 from by rw [← HP7.out.len]; exact hn9)
      generalize rd1 c ++ c.queue ++ ((c.hands.filter busyH).map Hd.job) = l3 at HP7 HPL HB3
      have k8 := HP7.out.ag.k8
      have HSRC := xH (HP7.out.ag.at'.r).src
      go_wp2_with (at_builtin; refine append_list _ rfl _ _ 23 rfl (w.heap.size + 1) 3 j1 (.int .i64 0) 1 8 Tryz.underlying23 (xU HI) (xU HI0) (xU HI1) (xU HI2) rfl (by decide) a n cap ((l3).map zcs).flatten rfl HP7.out.own A.r c.results.length A.pr (c.results.map zcs).flatten rfl (zflat_lenC _) (xU HSRC) (zflat_oneC _) (by unfold maxLen; omega) (by omega) (by have := HP7.out.ag.bel.size; have := HP7.out.ag.box.lt; omega) ?_; intro a4 cap4 w4 ho4 hg4; have HP8 := xH (HP7.out.add c.results rfl (xU ho4) (xU hg4)); clear ho4 hg4)
      clear k8 HSRC HP7 k6
      go_loopw [3, 5] (fun v i wr => ∃ (k : Nat) (a : Option Addr) (n cap : Nat), k ≤ c.ring.length ∧ i = .int .i64 k ∧ v = .slice a n cap ∧ Hid (Pl P w wr c A a n cap (l3 ++ c.results ++ (c.ring.take k).filter (fun z => decide (0 ≤ z))))) (fun _ i _ => c.ring.length - (intOf i).toNat)
      case atStart => exact ⟨0, _, _, _, Nat.zero_le _, rfl, rfl, by rw [List.take_zero, List.filter_nil, List.append_nil]; exact HP8⟩
      case round =>
       obtain ⟨k, a, n, cap, hk, rfl, rfl, HP5⟩ := hrel
       have k10 := HP5.out.ag.k10
       have hn99 : n ≤ 100 := by
        rw [HP5.out.len]
        simp only [List.length_append]
        have h2 := xU HB3
        have h3 : ((c.ring.take k).filter (fun z => decide (0 ≤ z))).length ≤ c.ring.length := Nat.le_trans (List.length_filter_le _ _) (by rw [List.length_take]; omega)
        omega
       by_cases hlt : k < c.ring.length
       · obtain ⟨b, o, ha, e0⟩ := HP5.out.ag.at_g k hlt
         rw [ha] at k10
         clear ha
         have HTK := xH (show l3 ++ c.results ++ (c.ring.take (k + 1)).filter (fun z => decide (0 ≤ z)) = (l3 ++ c.results ++ (c.ring.take k).filter (fun z => decide (0 ≤ z))) ++ (if 0 ≤ c.ring[k] then [c.ring[k]] else []) from by
          rw [List.take_succ_eq_append_getElem hlt, List.filter_append, ← List.append_assoc]
          congr 1
          by_cases hb : 0 ≤ c.ring[k] <;> simp [hb])
         generalize c.ring[k] = z at e0 HTK
         generalize l3 ++ c.results ++ (c.ring.take k).filter (fun z => decide (0 ≤ z)) = l5 at HP5 HTK
         by_cases hz : 0 ≤ z
         · have hzd : decide (0 ≤ z) = true := decide_eq_true hz
           rw [if_pos hz] at HTK
           clear hz
           go_wp2_with (at_builtin; refine append_row _ rfl _ _ 23 rfl (w.heap.size + 1) 3 j1 (.int .i64 0) 1 8 Tryz.underlying23 (xU HI) (xU HI0) (xU HI1) (xU HI2) rfl (by decide) (.slice a n cap) n ((l5).map zcs).flatten rfl (World.ownsRow.alloc (HP5.out).own _) ⟨wr.heap.size, 0, none⟩ 1 1 [.int .i64 (z)] rfl rfl (cell_one wr _ _) (fun u hu => by simp at hu; subst hu; rfl) (by decide) (by unfold maxLen; omega) (by omega) (by have := (HP5.out).ag.bel.size; have := (HP5.out).ag.box.lt; simp; omega) ?_; intro v' w8 hown8 hgrow8 hat8; obtain ⟨g8, cap8, rfl, hg1, hg2⟩ := hown8.form (by omega); have HP6 := xH (((HP5.out).on ((Below.refl _ _).alloc (Nat.le_refl _) (.cells #[.int .i64 (z)] 3))).add [z] rfl hown8 hgrow8); clear hown8 hgrow8 hat8)
           go_roundw
           case rel => exact ⟨k + 1, _, _, _, by omega, by go_num, rfl, by rw [xU HTK]; exact HP6⟩
           case measure => simp [intOf]; omega
         · have hzd : decide (0 ≤ z) = false := decide_eq_false hz
           rw [if_neg hz, List.append_nil] at HTK
           clear hz
           go_wp2_with fail
           go_roundw
           case rel => exact ⟨k + 1, _, _, _, by omega, by go_num, rfl, by rw [xU HTK]; exact HP5⟩
           case measure => simp [intOf]; omega
       · obtain rfl : k = c.ring.length := by omega
         have HP9 := HP5
         rw [List.take_length, ← xU HPL] at HP9
         have hln := HP9.out.len
         subst hln
         clear HP5
         go_wp2_with fail
         go_ret
         exact ⟨_, _, rfl, HP9.out.own, HP9.out.ag.bel⟩
end Go.Proofs.YtibgjcejddpldaaGreat
