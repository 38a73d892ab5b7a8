/- The walk of the specification's DrawCrewStart: some three numbers are drawn. No conditions. -/
import Derived.Test.YtchbialjgcejgaaPart08
import Derived.Deep.RegionHeld3
import Derived.Handy
import Derived.Test.YtchbialjgcejgaaPart06
import Derived.Test.YtchbialjgcejgaaPart03
import Derived.Deep.CutRange
import Derived.Deep.MidRow
import Derived.Deep.RegionWith
import Derived.BigQuiet
import Derived.BigRegion
import Derived.Test.YtchbialjgcejgaaPart00
namespace Go.Proofs.Ytchbialjgcejgaa
open Go Go.RowKit

def Dr3 (w w' : World) (e : Ending) : Prop := (∃ j k n : Int, e = .returned (.tuple #[.int .i64 j, .int .i64 k, .int .i64 n])) ∧ Below w.heap.size w w'
theorem dr_end {fn : Func} (hf : fn.results = #[.tmp 2, .tmp 3, .tmp 4]) {tm : Array Value} {W' : World} {j k n : Int} (h2 : tm.getD 2 undef = .int .i64 j) (h3 : tm.getD 3 undef = .int .i64 k) (h4 : tm.getD 4 undef = .int .i64 n) : (results fn tm).run Try.prog W' = .ok (.tuple #[.int .i64 j, .int .i64 k, .int .i64 n]) W' := by
  rw [Array.getD_eq_getD_getElem?] at h2 h3 h4
  simp [results, hf, go_sem, h2, h3, h4]
set_option maxRecDepth 100000 in
set_option maxHeartbeats 3200000 in
theorem drawCrewStart_any (w : World) (a : Option Addr) (cap : Nat) (l : List UInt8) (hv : BytesAt w (.slice a l.length cap) l) (hcap : l.length ≤ cap) : Calls Try.prog 9 #[.slice a l.length cap] w fun e w' => Dr3 w w' e := by
  have HOP := hide (l6Open_any w a cap l hv hcap)
  clear hv hcap
  go_enter Try.func9, Try.ntmps9
  go_wp2_with fail
  refine (unhide HOP).mono ?_
  rintro e w1 ⟨v', b', rfl, hd1, hb1⟩
  have HPK := hide (pick_any w.heap.size w1 v' b' 0 6 hd1 (by omega) (by omega))
  have HB1 := hide hb1
  clear hd1 hb1 HOP
  go_wp2_with fail
  refine (unhide HPK).mono ?_
  rintro e w2 ⟨r, rfl, hr, hD, hbut⟩
  have HD := hide (unhide hD); have HB := hide (but_below (unhide HB1) (unhide hbut))
  clear hD hbut HPK HB1 hr
  have HP := hide (fun n p W (hW : DR w.heap.size W v' b' p) (hn : 1 ≤ n ∧ n ≤ 1000000) (hp : p ≤ 1000000000) => pick_any w.heap.size W v' b' p n hW hn hp)
  by_cases h0 : r = 0
  · subst h0
    go_upto_region 4 with fail
    refine wp_swap (c' := Code.region 4 d4Ops true) (by kernel_rfl) ?_
    refine wp_region_noPanic ?_
    refine dr4 w w2 v' b' _ (fun _ _ _ _ _ h => h) ((unhide HD).on (w' := w2.drewN 1) ⟨rfl, rfl, rfl, Nat.le_refl _, fun _ _ => rfl⟩) ((unhide HB).trans ⟨rfl, rfl, rfl, Nat.le_refl _, fun _ _ => rfl⟩) ?_
    intro a' W' j k n e2 e3 e4 hdf hb
    refine NoPanic.normal ?_
    obtain ⟨tm, df⟩ := a'
    simp only at hdf
    subst hdf
    have HR := hide (dr_end (fn := Try.f9) (W' := W') (by rfl) e2 e3 e4)
    have HBB := hide hb
    clear e2 e3 e4 hb
    go_wp2_with fail
    exact bodyPost_ret (unhide HR) rfl ⟨⟨j, k, n, rfl⟩, unhide HBB⟩
  · have q0 : ((r : Int) == 0) = false := by simp [h0]
    by_cases h1 : r = 1
    · subst h1
      clear h0
      go_upto_region 6 with fail
      refine wp_swap (c' := Code.region 6 d6Ops true) (by kernel_rfl) ?_
      refine wp_region_noPanic ?_
      refine dr6 w w2 v' b' _ (fun _ _ _ _ _ h => h) ((unhide HD).on (w' := w2.drewN 1) ⟨rfl, rfl, rfl, Nat.le_refl _, fun _ _ => rfl⟩) ((unhide HB).trans ⟨rfl, rfl, rfl, Nat.le_refl _, fun _ _ => rfl⟩) ?_
      intro a' W' j k n e2 e3 e4 hdf hb
      refine NoPanic.normal ?_
      obtain ⟨tm, df⟩ := a'
      simp only at hdf
      subst hdf
      have HR := hide (dr_end (fn := Try.f9) (W' := W') (by rfl) e2 e3 e4)
      have HBB := hide hb
      clear e2 e3 e4 hb
      go_wp2_with fail
      exact bodyPost_ret (unhide HR) rfl ⟨⟨j, k, n, rfl⟩, unhide HBB⟩
    · have q1 : ((r : Int) == 1) = false := by simp; omega
      by_cases h2 : r = 2
      · subst h2
        clear h0 h1
        go_upto_region 8 with fail
        refine wp_swap (c' := Code.region 8 d8Ops true) (by kernel_rfl) ?_
        refine wp_region_noPanic ?_
        refine dr8 w w2 v' b' _ (fun _ _ _ _ _ h => h) ((unhide HD).on (w' := w2.drewN 1) ⟨rfl, rfl, rfl, Nat.le_refl _, fun _ _ => rfl⟩) ((unhide HB).trans ⟨rfl, rfl, rfl, Nat.le_refl _, fun _ _ => rfl⟩) ?_
        intro a' W' j k n e2 e3 e4 hdf hb
        refine NoPanic.normal ?_
        obtain ⟨tm, df⟩ := a'
        simp only at hdf
        subst hdf
        have HR := hide (dr_end (fn := Try.f9) (W' := W') (by rfl) e2 e3 e4)
        have HBB := hide hb
        clear e2 e3 e4 hb
        go_wp2_with fail
        exact bodyPost_ret (unhide HR) rfl ⟨⟨j, k, n, rfl⟩, unhide HBB⟩
      · have q2 : ((r : Int) == 2) = false := by simp; omega
        clear h0 h1 h2
        go_wp2_with fail
        refine (unhide HP 60 1 w2 (unhide HD) (by omega) (by omega)).mono ?_
        rintro e w3 ⟨r1, rfl, -, hD, hbut⟩
        have HD3 := hide (unhide hD); have HB3 := hide (but_below (unhide HB) (unhide hbut))
        clear hD hbut HD HB q0 q1 q2
        go_wp2_with fail
        refine (unhide HP 8 2 w3 (unhide HD3) (by omega) (by omega)).mono ?_
        rintro e w4 ⟨r2, rfl, hr2, hD, hbut⟩
        have HD4 := hide (unhide hD); have HB4 := hide (but_below (unhide HB3) (unhide hbut))
        have hw1 : IntKind.i64.wrap (1 + (r2 : Int)) = 1 + (r2 : Int) := by rw [IntKind.wrap_i64]; omega
        clear hD hbut HD3 HB3
        go_wp2_with fail
        refine (unhide HP 16 3 w4 (unhide HD4) (by omega) (by omega)).mono ?_
        rintro e w5 ⟨r3, rfl, hr3, hD, hbut⟩
        have HB5 := hide (but_below (unhide HB4) (unhide hbut))
        have hw2 : IntKind.i64.wrap (1 + (r3 : Int)) = 1 + (r3 : Int) := by rw [IntKind.wrap_i64]; omega
        clear hD hbut HD4 HB4 HP
        go_wp2_with fail
        refine bodyPost_ret (v := .tuple #[.int .i64 (r1 : Nat), .int .i64 (1 + (r2 : Int)), .int .i64 (1 + (r3 : Int))]) (by simp [results, Try.results9, go_sem]) rfl ?_
        exact ⟨⟨_, _, _, rfl⟩, unhide HB5⟩
end Go.Proofs.Ytchbialjgcejgaa

/- A world that is handed to a function: its box, its lists in whatever memory. Definitions and small laws. No conditions. -/

namespace Go.Proofs.Ytchbialjgcejgaa
open Go Go.RowKit

/-- Where its lists lie, and their room. -/
structure A7 where
  (q h r g o t s : Option Addr) (pq ph pr pg po pt ps : Nat)
def A7.v (A : A7) (c : Cw) : C7 := ⟨.slice A.q c.queue.length A.pq, .slice A.h c.hands.length A.ph, .slice A.r c.results.length A.pr, .slice A.g c.ring.length A.pg, .slice A.o c.out.length A.po, .slice A.t c.got.length A.pt, .slice A.s c.shut.length A.ps⟩
theorem CwAt.addr {P : Nat → Prop} {w : World} {c : Cw} {v : C7} (h : CwAt P w c v) : ∃ A : A7, v = A.v c := by
  obtain ⟨aq1, pq1, eq, -, -⟩ := h.q.open
  obtain ⟨ah1, ph1, eh, -, -⟩ := h.h.open
  obtain ⟨ar1, pr1, er, -, -⟩ := h.r.open
  obtain ⟨ag1, pg1, eg, -, -⟩ := h.g.open
  obtain ⟨ao1, po1, eo, -, -⟩ := h.o.open
  obtain ⟨at1, pt1, et, -, -⟩ := h.t.open
  obtain ⟨as1, ps1, es, -, -⟩ := h.s.open
  refine ⟨⟨aq1, ah1, ar1, ag1, ao1, at1, as1, pq1, ph1, pr1, pg1, po1, pt1, ps1⟩, ?_⟩
  cases v
  simp only at eq eh er eg eo et es
  subst eq eh er eg eo et es
  rfl
/-- A world as a function has it: in a box of its own. -/
structure Ag (P : Nat → Prop) (w W : World) (c : Cw) (A : A7) : Prop where
  box : W.rowIs w.heap.size 28 18 (r18 [.int .i64 c.jobs, .int .i64 c.workers, .int .i64 c.window, .int .i64 c.next, .int .i64 c.reader, .slice A.q c.queue.length A.pq, .slice A.h c.hands.length A.ph, .int .i64 c.closer, .slice A.r c.results.length A.pr, .int .i64 c.keeper, .slice A.g c.ring.length A.pg, .int .i64 c.due, .slice A.o c.out.length A.po, .int .i64 c.user, .slice A.t c.got.length A.pt, .int .i64 c.room, .slice A.s c.shut.length A.ps, .int .i64 c.ops])
  at' : CwAt P W c (A.v c)
  lt : ∀ b, P b → b < w.heap.size
  bel : Below w.heap.size w W
theorem Ag.start {P : Nat → Prop} {w : World} {c : Cw} {A : A7} (h : CwAt P w c (A.v c)) (hP : ∀ b, P b → b < w.heap.size) : Ag P w (w.alloc (.cells #[.int .i64 c.jobs, .int .i64 c.workers, .int .i64 c.window, .int .i64 c.next, .int .i64 c.reader, .slice A.q c.queue.length A.pq, .slice A.h c.hands.length A.ph, .int .i64 c.closer, .slice A.r c.results.length A.pr, .int .i64 c.keeper, .slice A.g c.ring.length A.pg, .int .i64 c.due, .slice A.o c.out.length A.po, .int .i64 c.user, .slice A.t c.got.length A.pt, .int .i64 c.room, .slice A.s c.shut.length A.ps, .int .i64 c.ops] 28)) c A :=
  ⟨box18 w c (A.v c) 28, h.carry (fun b hb => Below.heap_alloc _ _ _ (hP b hb)) (fun _ h => h), hP, (Below.refl _ _).alloc (Nat.le_refl _) _⟩
theorem Ag.on {P : Nat → Prop} {w W W' : World} {c : Cw} {A : A7} (h : Ag P w W c A) (hb : Below W.heap.size W W') : Ag P w W' c A :=
  ⟨h.box.of_block (hb.block _ h.box.lt), h.at'.carry (fun b hp => hb.block b (Nat.lt_of_lt_of_le (h.lt b hp) h.bel.size)) (fun _ h => h), h.lt, h.bel.trans (hb.mono h.bel.size)⟩
/-- The same world, handed on. -/
theorem Ag.hand {P : Nat → Prop} {w W : World} {c : Cw} {A : A7} (h : Ag P w W c A) : CwAt P W c (A.v c) ∧ ∀ b, P b → b < W.heap.size := ⟨h.at', fun b hp => Nat.lt_of_lt_of_le (h.lt b hp) h.bel.size⟩
theorem Ag.range {P : Nat → Prop} {w W : World} {c : Cw} {A : A7} (h : Ag P w W c A) : W.rangeAt w.heap.size 0 [.int .i64 c.jobs, .int .i64 c.workers, .int .i64 c.window, .int .i64 c.next, .int .i64 c.reader, .slice A.q c.queue.length A.pq, .slice A.h c.hands.length A.ph, .int .i64 c.closer, .slice A.r c.results.length A.pr, .int .i64 c.keeper, .slice A.g c.ring.length A.pg, .int .i64 c.due, .slice A.o c.out.length A.po, .int .i64 c.user, .slice A.t c.got.length A.pt, .int .i64 c.room, .slice A.s c.shut.length A.ps, .int .i64 c.ops] := range_row [.int .i64 c.jobs, .int .i64 c.workers, .int .i64 c.window, .int .i64 c.next, .int .i64 c.reader, .slice A.q c.queue.length A.pq, .slice A.h c.hands.length A.ph, .int .i64 c.closer, .slice A.r c.results.length A.pr, .int .i64 c.keeper, .slice A.g c.ring.length A.pg, .int .i64 c.due, .slice A.o c.out.length A.po, .int .i64 c.user, .slice A.t c.got.length A.pt, .int .i64 c.room, .slice A.s c.shut.length A.ps, .int .i64 c.ops] rfl h.box
theorem Ag.k0 {P : Nat → Prop} {w W : World} {c : Cw} {A : A7} (h : Ag P w W c A) : W.cell? ⟨w.heap.size, 0, none⟩ = some (.int .i64 c.jobs) := h.box.cell (i := 0) (by omega)
theorem Ag.k1 {P : Nat → Prop} {w W : World} {c : Cw} {A : A7} (h : Ag P w W c A) : W.cell? ⟨w.heap.size, 1, none⟩ = some (.int .i64 c.workers) := h.box.cell (i := 1) (by omega)
theorem Ag.k2 {P : Nat → Prop} {w W : World} {c : Cw} {A : A7} (h : Ag P w W c A) : W.cell? ⟨w.heap.size, 2, none⟩ = some (.int .i64 c.window) := h.box.cell (i := 2) (by omega)
theorem Ag.k3 {P : Nat → Prop} {w W : World} {c : Cw} {A : A7} (h : Ag P w W c A) : W.cell? ⟨w.heap.size, 3, none⟩ = some (.int .i64 c.next) := h.box.cell (i := 3) (by omega)
theorem Ag.k4 {P : Nat → Prop} {w W : World} {c : Cw} {A : A7} (h : Ag P w W c A) : W.cell? ⟨w.heap.size, 4, none⟩ = some (.int .i64 c.reader) := h.box.cell (i := 4) (by omega)
theorem Ag.k5 {P : Nat → Prop} {w W : World} {c : Cw} {A : A7} (h : Ag P w W c A) : W.cell? ⟨w.heap.size, 5, none⟩ = some (.slice A.q c.queue.length A.pq) := h.box.cell (i := 5) (by omega)
theorem Ag.k6 {P : Nat → Prop} {w W : World} {c : Cw} {A : A7} (h : Ag P w W c A) : W.cell? ⟨w.heap.size, 6, none⟩ = some (.slice A.h c.hands.length A.ph) := h.box.cell (i := 6) (by omega)
theorem Ag.k7 {P : Nat → Prop} {w W : World} {c : Cw} {A : A7} (h : Ag P w W c A) : W.cell? ⟨w.heap.size, 7, none⟩ = some (.int .i64 c.closer) := h.box.cell (i := 7) (by omega)
theorem Ag.k8 {P : Nat → Prop} {w W : World} {c : Cw} {A : A7} (h : Ag P w W c A) : W.cell? ⟨w.heap.size, 8, none⟩ = some (.slice A.r c.results.length A.pr) := h.box.cell (i := 8) (by omega)
theorem Ag.k9 {P : Nat → Prop} {w W : World} {c : Cw} {A : A7} (h : Ag P w W c A) : W.cell? ⟨w.heap.size, 9, none⟩ = some (.int .i64 c.keeper) := h.box.cell (i := 9) (by omega)
theorem Ag.k10 {P : Nat → Prop} {w W : World} {c : Cw} {A : A7} (h : Ag P w W c A) : W.cell? ⟨w.heap.size, 10, none⟩ = some (.slice A.g c.ring.length A.pg) := h.box.cell (i := 10) (by omega)
theorem Ag.k11 {P : Nat → Prop} {w W : World} {c : Cw} {A : A7} (h : Ag P w W c A) : W.cell? ⟨w.heap.size, 11, none⟩ = some (.int .i64 c.due) := h.box.cell (i := 11) (by omega)
theorem Ag.k12 {P : Nat → Prop} {w W : World} {c : Cw} {A : A7} (h : Ag P w W c A) : W.cell? ⟨w.heap.size, 12, none⟩ = some (.slice A.o c.out.length A.po) := h.box.cell (i := 12) (by omega)
theorem Ag.k13 {P : Nat → Prop} {w W : World} {c : Cw} {A : A7} (h : Ag P w W c A) : W.cell? ⟨w.heap.size, 13, none⟩ = some (.int .i64 c.user) := h.box.cell (i := 13) (by omega)
theorem Ag.k14 {P : Nat → Prop} {w W : World} {c : Cw} {A : A7} (h : Ag P w W c A) : W.cell? ⟨w.heap.size, 14, none⟩ = some (.slice A.t c.got.length A.pt) := h.box.cell (i := 14) (by omega)
theorem Ag.k15 {P : Nat → Prop} {w W : World} {c : Cw} {A : A7} (h : Ag P w W c A) : W.cell? ⟨w.heap.size, 15, none⟩ = some (.int .i64 c.room) := h.box.cell (i := 15) (by omega)
theorem Ag.k16 {P : Nat → Prop} {w W : World} {c : Cw} {A : A7} (h : Ag P w W c A) : W.cell? ⟨w.heap.size, 16, none⟩ = some (.slice A.s c.shut.length A.ps) := h.box.cell (i := 16) (by omega)
theorem Ag.k17 {P : Nat → Prop} {w W : World} {c : Cw} {A : A7} (h : Ag P w W c A) : W.cell? ⟨w.heap.size, 17, none⟩ = some (.int .i64 c.ops) := h.box.cell (i := 17) (by omega)
theorem Ag.at_h {P : Nat → Prop} {w W : World} {c : Cw} {A : A7} (h : Ag P w W c A) (i : Nat) (hi : i < c.hands.length) : ∃ b o, A.h = some ⟨b, o, none⟩ ∧ W.cell? ⟨b, o + i * 2, none⟩ = some (.int .i64 c.hands[i].state) ∧ W.cell? ⟨b, o + i * 2 + 1, none⟩ = some (.int .i64 c.hands[i].job) := by
  obtain ⟨a, p, e, -, hc⟩ := h.at'.h.open
  simp only [A7.v, Value.slice.injEq] at e
  obtain ⟨rfl, -, -⟩ := e
  obtain ⟨b, o, e, -, h1, h2⟩ := hc i hi
  exact ⟨b, o, e, h1, h2⟩
theorem Ag.len_h {P : Nat → Prop} {w W : World} {c : Cw} {A : A7} (h : Ag P w W c A) : c.hands.length ≤ 9223372036854775807 := by
  obtain ⟨a, p, -, hl, -⟩ := h.at'.h.open
  exact hl
theorem Ag.len_t {P : Nat → Prop} {w W : World} {c : Cw} {A : A7} (h : Ag P w W c A) : c.got.length ≤ 9223372036854775807 := by
  obtain ⟨a, p, -, hl, -⟩ := h.at'.t.open
  exact hl
theorem Ag.at_s {P : Nat → Prop} {w W : World} {c : Cw} {A : A7} (h : Ag P w W c A) (i : Nat) (hi : i < c.shut.length) : ∃ b o, A.s = some ⟨b, o, none⟩ ∧ W.cell? ⟨b, o + i, none⟩ = some (.int .i64 c.shut[i]) := by
  obtain ⟨a, p, e, -, hc⟩ := h.at'.s.open
  simp only [A7.v, Value.slice.injEq] at e
  obtain ⟨rfl, -, -⟩ := e
  obtain ⟨b, o, e, -, h1⟩ := hc i hi
  exact ⟨b, o, e, h1⟩
end Go.Proofs.Ytchbialjgcejgaa

/- When a crew's world is ok, as plain data: the specification's way. Definitions. No program, no conditions. -/

namespace Go.Proofs.Ytchbialjgcejgaa
open Go Go.RowKit

def allE (hs : List Hd) : Bool := hs.all (fun h => h.state == 3)
def anyE (hs : List Hd) : Bool := hs.any (fun h => h.state == 3)
def busyH (h : Hd) : Bool := h.state == 1 || h.state == 2
def handOk (h : Hd) : Prop := (0 ≤ h.state ∧ h.state ≤ 3) ∧ (busyH h = false → h.job = 0)
/-- The place of the job that is due. -/
def dueAt (c : Cw) : Nat := c.due.toNat % c.ring.length
def dueIn (c : Cw) : Bool := c.ring.getD (dueAt c) 0 == c.due
def rdL (s : Int) : Int := if s = 0 then 2 else if s = 1 then 12 else if s = 2 then 1 else 0
def wkL (s : Int) : Int := if s = 0 then 1 else if s = 1 then 9 else if s = 2 then 8 else 0
def kpL (s : Int) : Int := if s = 0 then 2 else if s = 1 then 3 else if s = 2 then 2 else if s = 3 then 4 else if s = 4 then 1 else 0
def sumH (hs : List Hd) : Int := (hs.map (fun h => wkL h.state)).sum
def sumG (gs : List Int) : Int := (gs.map (fun z => if 0 ≤ z then (4 : Int) else 0)).sum
/-- What is left to be done. -/
def leftZ (c : Cw) : Int := 11 * (c.jobs - c.next) + 9 * c.queue.length + 6 * c.results.length + c.out.length + rdL c.reader + (1 - c.closer) + kpL c.keeper + (1 - c.user) + sumH c.hands + sumG c.ring
/-- The parts of a world that are within their bounds, whoever looks. -/
structure Form (c : Cw) : Prop where
  st : stOk c.jobs c.workers c.window
  next : 0 ≤ c.next ∧ c.next ≤ c.jobs
  due : 0 ≤ c.due ∧ c.due ≤ c.next
  room : 0 ≤ c.room ∧ c.room ≤ c.window
  ops : 0 ≤ c.ops ∧ c.ops ≤ 10000
  hands : (c.hands.length : Int) = c.workers
  ring : (c.ring.length : Int) = c.window
  shut : c.shut.length = 4
  queue : (c.queue.length : Int) ≤ c.workers
  results : (c.results.length : Int) ≤ c.workers
  out : c.out.length ≤ 1
  shuts : ∀ z ∈ c.shut, 0 ≤ z ∧ z ≤ 1
  handsOk : ∀ h ∈ c.hands, handOk h
  reader : 0 ≤ c.reader ∧ c.reader ≤ 3
  closer : 0 ≤ c.closer ∧ c.closer ≤ 1
  keeper : 0 ≤ c.keeper ∧ c.keeper ≤ 5
  user : 0 ≤ c.user ∧ c.user ≤ 1
theorem Form.small {c : Cw} (h : Form c) : c.hands.length ≤ 8 ∧ 0 < c.hands.length ∧ c.ring.length ≤ 16 ∧ 0 < c.ring.length ∧ c.queue.length ≤ 8 ∧ c.results.length ≤ 8 ∧ c.jobs ≤ 60 ∧ 0 ≤ c.jobs := by
  obtain ⟨⟨a1, a2⟩, ⟨a3, a4⟩, ⟨a5, a6⟩⟩ := h.st
  have := h.hands; have := h.ring; have := h.queue; have := h.results
  omega
theorem wkL_bound (s : Int) : 0 ≤ wkL s ∧ wkL s ≤ 9 := by unfold wkL; split <;> (try split) <;> (try split) <;> omega
theorem rdL_bound (s : Int) : 0 ≤ rdL s ∧ rdL s ≤ 12 := by unfold rdL; split <;> (try split) <;> (try split) <;> omega
theorem kpL_bound (s : Int) : 0 ≤ kpL s ∧ kpL s ≤ 4 := by unfold kpL; split <;> (try split) <;> (try split) <;> (try split) <;> (try split) <;> omega
theorem sumH_bound : ∀ (hs : List Hd), 0 ≤ sumH hs ∧ sumH hs ≤ 9 * hs.length
  | [] => by simp [sumH]
  | h :: r => by
      have := sumH_bound r; have := wkL_bound h.state
      simp only [sumH, List.map_cons, List.sum_cons, List.length_cons] at *
      omega
theorem sumH_take (hs : List Hd) (k : Nat) (hk : k < hs.length) : sumH (hs.take (k + 1)) = sumH (hs.take k) + wkL hs[k].state := by
  rw [List.take_succ_eq_append_getElem hk]
  unfold sumH
  rw [List.map_append, List.sum_append]
  simp only [List.map_cons, List.map_nil, List.sum_cons, List.sum_nil, Int.add_zero]
end Go.Proofs.Ytchbialjgcejgaa

/- append of a whole list, which may be empty, onto a row of the call's own; a world that is handed in while such a row grows. No program walked, no conditions. -/

namespace Go.Proofs.Ytchbialjgcejgaa
open Go Go.RowKit

theorem append_list {P : Program} (w : World) {ops : Array Oper} {rest : List Oper} {o : Oper} {a : Act} {Q : Exit → Act → World → Prop}
    (hg : o.guard = none) (s x : Operand) (t : TypeId) (hop : o.op = Op.call { callee := Callee.builtin Builtin.append, args := #[s, x], argTypes := #[t, t] })
    (base : Nat) (e : TypeId) (i : TypeInfo) (z : Value) (size bytes : Nat) (h1 : P.underlying t = some (.slice e)) (h2 : P.info? e = some i) (h3 : i.zero = some z) (h4 : i.size = size) (h5 : i.bytes = bytes) (h6 : z.cells.size = size) (h7 : 0 < size)
    (a0 : Option Addr) (n cap : Nat) (xs : List Value) (hs : a.eval s = .slice a0 n cap) (hown : w.ownsRow base e size (.slice a0 n cap) n xs)
    (ax : Option Addr) (m c : Nat) (ys : List Value) (hx : a.eval x = .slice ax m c) (hn : ys.length = m * size) (hc : 0 < m → ∃ ad, ax = some ad ∧ ∀ j u, ys[j]? = some u → w.cell? (ad.add j) = some u) (h1c : ∀ u ∈ ys, u.oneCell' = true)
    (b1 : n + m ≤ maxLen) (b2 : (n + m) * bytes ≤ 140737488355328) (hbase : base ≤ w.heap.size)
    (hK : ∀ a' cap' w', Hid (w'.ownsRow base e size (.slice a' (n + m) cap') (n + m) (xs ++ ys)) → Hid (w.grownBy w' (Value.slice a0 n cap).ownBlock) → wpList P ops Q rest (a.put o.dst (.slice a' (n + m) cap')) w') :
    wpList P ops Q (o :: rest) a w := by
  rcases Nat.eq_zero_or_pos m with h0 | h0
  · subst h0
    have hys : ys = [] := List.eq_nil_of_length_eq_zero (by rw [hn]; omega)
    subst hys
    have hcap : n ≤ cap := own_capT hown
    have hrun : ∀ ty, (Builtin.append_ #[t, t] ty #[.slice a0 n cap, .slice ax 0 c]).run P w = .ok (.slice a0 n cap) w := fun ty => by
      cases a0 with
      | none => cases ax <;> simp [Builtin.append_, run_underlying h1, sizeOf, typeInfo, h2, Builtin.lenOf, Builtin.firstCells, go_sem, hcap]
      | some a1 => cases ax <;> simp [Builtin.append_, run_underlying h1, sizeOf, typeInfo, h2, Builtin.lenOf, Builtin.firstCells, go_sem, hcap]
    refine wpList_plain hg fun K hKK => ?_
    unfold Oper.wp execOp
    simp only [hop, resolve, invoke, builtin, Sem.run_bind, Sem.run_pure, Result.andThen_ok, List.map_toArray, List.map_cons, List.map_nil, hs, hx, hrun]
    exact hKK _ _ (hK a0 cap w (by rw [Nat.add_zero, List.append_nil]; exact hown) (World.grownBy.refl w _))
  · obtain ⟨ad, rfl, hcc⟩ := hc h0
    refine append_row w hg s x t hop base e i z size bytes h1 h2 h3 h4 h5 h6 h7 (.slice a0 n cap) n xs hs hown ad m c ys hx hn hcc h1c h0 b1 b2 hbase (fun v' w' r1 r2 _ => ?_)
    obtain ⟨g, cap', rfl, -, -⟩ := r1.form (by omega)
    exact hK _ cap' w' r1 r2
/-- The cells of a list of numbers that is handed in, to be copied. -/
theorem ZAt.src {P : Nat → Prop} {W : World} {a : Option Addr} {n p : Nat} {zs : List Int} (h : ZAt P W (.slice a n p) zs) : 0 < n → ∃ ad, a = some ad ∧ ∀ j u, (zs.map zcs).flatten[j]? = some u → W.cell? (ad.add j) = some u := by
  obtain ⟨a', p', e, -, hc⟩ := h.open
  simp only [Value.slice.injEq] at e
  obtain ⟨rfl, rfl, rfl⟩ := e
  intro h0
  obtain ⟨b, o, rfl, -, -⟩ := hc 0 h0
  refine ⟨_, rfl, fun j u hj => ?_⟩
  rw [zflat_map, List.getElem?_map] at hj
  obtain ⟨x, hx, rfl⟩ := Option.map_eq_some_iff.1 hj
  obtain ⟨hlt, rfl⟩ := List.getElem?_eq_some_iff.1 hx
  obtain ⟨b', o', e3, -, hcell⟩ := hc j hlt
  simp only [Option.some.injEq, Addr.mk.injEq, and_true] at e3
  obtain ⟨rfl, rfl⟩ := e3
  rw [Addr.add_lit]
  exact hcell
theorem zflat_oneC (zs : List Int) : ∀ u ∈ (zs.map zcs).flatten, u.oneCell' = true := by
  rw [zflat_map]
  intro u hu
  obtain ⟨z, -, rfl⟩ := List.mem_map.1 hu
  rfl
theorem zflat_lenC (zs : List Int) : (zs.map zcs).flatten.length = zs.length * 1 := by
  rw [zflat_map, List.length_map, Nat.mul_one]
/-- Where jobs are: the specification's list. -/
def placesL (c : Cw) : List Int := (if c.reader = 1 then [c.next - 1] else []) ++ c.queue ++ ((c.hands.filter busyH).map Hd.job) ++ c.results ++ c.ring.filter (fun z => decide (0 ≤ z))
end Go.Proofs.Ytchbialjgcejgaa

/- The walk of the specification's l51Places. Condition: the world's parts are within their bounds. -/

namespace Go.Proofs.Ytchbialjgcejgaa
open Go Go.RowKit

def rd1 (c : Cw) : List Int := if c.reader = 1 then [c.next - 1] else []
theorem rd1_len (c : Cw) : (rd1 c).length ≤ 1 := by unfold rd1; split <;> simp
end Go.Proofs.Ytchbialjgcejgaa

/- The walk of the specification's l51Jobs. Condition: the world's parts are within their bounds. -/

namespace Go.Proofs.Ytchbialjgcejgaa
open Go Go.RowKit

/-- A word is given back that says whether p. -/
def RetB (e : Ending) (p : Prop) : Prop := ∃ r : Bool, e = .returned (.bool r) ∧ (r = true ↔ p)
theorem RetB.yes {p : Prop} (h : p) : RetB (.returned (.bool true)) p := ⟨true, rfl, by simp [h]⟩
theorem RetB.no {p : Prop} (h : ¬ p) : RetB (.returned (.bool false)) p := ⟨false, rfl, by simp [h]⟩
theorem below_drewN (w : World) : ∀ m, Below w.heap.size w (w.drewN m) := fun _ => ⟨rfl, rfl, rfl, Nat.le_refl _, fun _ _ => rfl⟩
def jA (c : Cw) (l : List Int) : Prop := ∀ i, (h : i < l.length) → c.due ≤ l[i] ∧ l[i] ≤ c.next - 1
def jD (l : List Int) : Prop := ∀ i j, (hi : i < l.length) → (hj : j < i) → l[i] ≠ l[j]
def jN (c : Cw) (l : List Int) : Prop := c.shut.getD 3 0 = 0 → (l.length : Int) = c.next - c.due
def jR (c : Cw) : Prop := ∀ i, (h : i < c.ring.length) → -1 ≤ c.ring[i] ∧ (0 ≤ c.ring[i] → c.ring[i].tmod c.window = i)
def jG (c : Cw) : Prop := ∀ i, (h : i < c.got.length) → c.got[i] = i
def backZ (c : Cw) : Int := if c.keeper = 3 then 1 else 0
def jT (c : Cw) : Prop := c.due = c.got.length + c.out.length ∧ (c.out.length = 0 ∨ c.out.getD 0 0 = c.got.length) ∧ c.room + c.next - c.due + backZ c = c.window
instance (c : Cw) (l : List Int) : Decidable (jN c l) := by unfold jN; infer_instance
def jobsS (c : Cw) : Prop := jA c (placesL c) ∧ jD (placesL c) ∧ jN c (placesL c) ∧ jR c ∧ jG c ∧ jT c
end Go.Proofs.Ytchbialjgcejgaa

/- The walks of the specification's l51All, l51Any, l51Due. No conditions. -/

namespace Go.Proofs.Ytchbialjgcejgaa
open Go Go.RowKit

end Go.Proofs.Ytchbialjgcejgaa

/- The walk of the specification's l51Ends. Condition: the world's parts are within their bounds. -/

namespace Go.Proofs.Ytchbialjgcejgaa
open Go Go.RowKit

def shZ (c : Cw) (i : Nat) : Int := c.shut.getD i 0
def stpB (c : Cw) : Bool := decide (shZ c 3 = 1)
def dnB (c : Cw) : Bool := decide (c.keeper = 4 ∨ c.keeper = 5)
def e1 (c : Cw) : Bool := decide (shZ c 0 = 1) != decide (c.reader = 3)
def e2 (c : Cw) : Bool := decide (shZ c 1 = 1) != decide (c.closer = 1)
def e3 (c : Cw) : Bool := decide (shZ c 2 = 1) != decide (c.keeper = 5)
def e4 (c : Cw) : Bool := stpB c && !decide (c.user = 1)
def e5 (c : Cw) : Bool := !stpB c && (decide (2 ≤ c.reader) && !decide (c.next = c.jobs))
def e6 (c : Cw) : Bool := !stpB c && (anyE c.hands && (!decide (c.reader = 3) || decide (0 < c.queue.length)))
def e7 (c : Cw) : Bool := decide (c.closer = 1) && !allE c.hands
def e8 (c : Cw) : Bool := !stpB c && (dnB c && (!decide (c.closer = 1) || decide (0 < c.results.length)))
def e9 (c : Cw) : Bool := !stpB c && (decide (c.user = 1) && (!decide (c.keeper = 5) || decide (0 < c.out.length)))
def eK (c : Cw) : Bool := if c.keeper = 0 then !dueIn c else (!decide (c.keeper = 2) || dueIn c)
def endsB (c : Cw) : Bool := !e1 c && !e2 c && !e3 c && !e4 c && !e5 c && !e6 c && !e7 c && !e8 c && !e9 c && eK c
theorem wpList_want {P : Program} {ops : Array Oper} {Q : Exit → Act → World → Prop} {a : Act} {w : World} {rest : List Oper} {o : Oper} (hw : Region.wanted o (yielded ops a.tmps) = true)
    (h : ∀ K : Act → World → Prop, (∀ a w, wpList P ops Q rest a w → K a w) → o.wp P a w K Q) : wpList P ops Q (o :: rest) a w :=
  wpList_step fun K hK => by simp only [hw, if_true]; exact h K hK
end Go.Proofs.Ytchbialjgcejgaa

/- A world in memory of its own, and the box that it lies in; the law's own functions on it. No conditions. -/

namespace Go.Proofs.Ytchbialjgcejgaa
open Go Go.RowKit

end Go.Proofs.Ytchbialjgcejgaa

/- The walk of the specification's l51Form. No conditions. -/

namespace Go.Proofs.Ytchbialjgcejgaa
open Go Go.RowKit

def f2 (c : Cw) : Prop := stOk c.jobs c.workers c.window ∧ (0 ≤ c.next ∧ c.next ≤ c.jobs) ∧ (0 ≤ c.due ∧ c.due ≤ c.next) ∧ (0 ≤ c.room ∧ c.room ≤ c.window) ∧ (0 ≤ c.ops ∧ c.ops ≤ 10000)
instance (c : Cw) : Decidable (f2 c) := by unfold f2; infer_instance
def f4 (c : Cw) : Prop := (c.hands.length : Int) = c.workers ∧ (c.ring.length : Int) = c.window ∧ c.shut.length = 4 ∧ (c.queue.length : Int) ≤ c.workers ∧ (c.results.length : Int) ≤ c.workers ∧ c.out.length ≤ 1 ∧ (c.got.length : Int) ≤ c.jobs
instance (c : Cw) : Decidable (f4 c) := by unfold f4; infer_instance
def fE (c : Cw) : Prop := (0 ≤ c.reader ∧ c.reader ≤ 3) ∧ (0 ≤ c.closer ∧ c.closer ≤ 1) ∧ (0 ≤ c.keeper ∧ c.keeper ≤ 5) ∧ (0 ≤ c.user ∧ c.user ≤ 1)
instance (c : Cw) : Decidable (fE c) := by unfold fE; infer_instance
instance (h : Hd) : Decidable (handOk h) := by unfold handOk; infer_instance
/-- The specification's form: the bounds, and no more given than there are jobs. -/
def formS (c : Cw) : Prop := f2 c ∧ f4 c ∧ (∀ z ∈ c.shut, 0 ≤ z ∧ z ≤ 1) ∧ (∀ h ∈ c.hands, handOk h) ∧ fE c
instance (c : Cw) : Decidable (formS c) := by unfold formS; infer_instance
theorem formS_iff (c : Cw) : formS c ↔ Form c ∧ (c.got.length : Int) ≤ c.jobs := by
  constructor
  · rintro ⟨⟨a1, a2, a3, a4, a5⟩, ⟨b1, b2, b3, b4, b5, b6, b7⟩, d1, d2, ⟨g1, g2, g3, g4⟩⟩
    exact ⟨⟨a1, a2, a3, a4, a5, b1, b2, b3, b4, b5, b6, d1, d2, g1, g2, g3, g4⟩, b7⟩
  · rintro ⟨⟨a1, a2, a3, a4, a5, b1, b2, b3, b4, b5, b6, d1, d2, g1, g2, g3, g4⟩, b7⟩
    exact ⟨⟨a1, a2, a3, a4, a5⟩, ⟨b1, b2, b3, b4, b5, b6, b7⟩, d1, d2, ⟨g1, g2, g3, g4⟩⟩
end Go.Proofs.Ytchbialjgcejgaa
