/- The walks of the law's own markCrewWorld, heldCrewWorld over a world that owns its memory. The marks count to at most 2^40. -/
import Derived.Test.YtibgjcejddpldaaPart01
import Derived.Test.YtibgjcejddpldaaPart00
import Derived.Handy
import Derived.BigRegion
namespace Go.Proofs.Ytibgjcejddpldaa
open Go Go.RowKit

theorem ret_i {a b : Int} (h : a = b) : Ending.returned (.int .i64 a) = .returned (.int .i64 b) := by rw [h]
/-- Seven lists of blocks, none of which has one of another. -/
structure Dj7 (Fq Fh Fr Fg Fo Ft Fs : List Nat) : Prop where
  d0 : ∀ b, b ∈ Fq → b ∉ Fh ++ (Fr ++ (Fg ++ (Fo ++ (Ft ++ (Fs)))))
  d1 : ∀ b, b ∈ Fh → b ∉ Fr ++ (Fg ++ (Fo ++ (Ft ++ (Fs))))
  d2 : ∀ b, b ∈ Fr → b ∉ Fg ++ (Fo ++ (Ft ++ (Fs)))
  d3 : ∀ b, b ∈ Fg → b ∉ Fo ++ (Ft ++ (Fs))
  d4 : ∀ b, b ∈ Fo → b ∉ Ft ++ (Fs)
  d5 : ∀ b, b ∈ Ft → b ∉ Fs
theorem Exc.sub {F F' : List Nat} {w w' : World} (h : Exc F w w') (hs : ∀ b, b ∈ F → b ∈ F') : Exc F' w w' := ⟨h.os, h.tape, h.output, h.size, fun k hk hn => h.block k hk (fun hm => hn (hs k hm))⟩
/-- A world while it is marked: what it is now, its box. -/
structure MkSt (w wr : World) (c0 c : Cw) (v : C7) (Fq Fh Fr Fg Fo Ft Fs : List Nat) : Prop where
  own : CwOwn wr c v Fq Fh Fr Fg Fo Ft Fs
  exc : Exc (F7 Fq Fh Fr Fg Fo Ft Fs) w wr
  box : wr.rowIs w.heap.size 29 18 (r18 [.int .i64 c0.jobs, .int .i64 c0.workers, .int .i64 c0.window, .int .i64 c0.next, .int .i64 c0.reader, v.q, v.h, .int .i64 c0.closer, v.r, .int .i64 c0.keeper, v.g, .int .i64 c0.due, v.o, .int .i64 c0.user, v.t, .int .i64 c0.room, v.s, .int .i64 c0.ops])
theorem MkSt.q {w wr : World} {c0 c : Cw} {v : C7} {Fq Fh Fr Fg Fo Ft Fs : List Nat} {w' : World} {zs : List Int} (h : MkSt w wr c0 c v Fq Fh Fr Fg Fo Ft Fs) (hd : Dj7 Fq Fh Fr Fg Fo Ft Fs) (hl : ∀ b, b ∈ F7 Fq Fh Fr Fg Fo Ft Fs → b < w.heap.size) (hz : ZOwn w' v.q zs Fq) (hx : Exc Fq wr w') : MkSt w w' c0 { c with queue := zs } v Fq Fh Fr Fg Fo Ft Fs :=
  ⟨⟨hz, FlatOwn.carry h.own.h (fun b hb => hx.block b (Nat.lt_of_lt_of_le (hl b (by simp [F7, hb])) h.exc.size) (fun hm => (hd.d0 b hm) (List.mem_append_left _ hb))), FlatOwn.carry h.own.r (fun b hb => hx.block b (Nat.lt_of_lt_of_le (hl b (by simp [F7, hb])) h.exc.size) (fun hm => (hd.d0 b hm) (List.mem_append_right _ (List.mem_append_left _ hb)))), FlatOwn.carry h.own.g (fun b hb => hx.block b (Nat.lt_of_lt_of_le (hl b (by simp [F7, hb])) h.exc.size) (fun hm => (hd.d0 b hm) (List.mem_append_right _ (List.mem_append_right _ (List.mem_append_left _ hb))))), FlatOwn.carry h.own.o (fun b hb => hx.block b (Nat.lt_of_lt_of_le (hl b (by simp [F7, hb])) h.exc.size) (fun hm => (hd.d0 b hm) (List.mem_append_right _ (List.mem_append_right _ (List.mem_append_right _ (List.mem_append_left _ hb)))))), FlatOwn.carry h.own.t (fun b hb => hx.block b (Nat.lt_of_lt_of_le (hl b (by simp [F7, hb])) h.exc.size) (fun hm => (hd.d0 b hm) (List.mem_append_right _ (List.mem_append_right _ (List.mem_append_right _ (List.mem_append_right _ (List.mem_append_left _ hb))))))), FlatOwn.carry h.own.s (fun b hb => hx.block b (Nat.lt_of_lt_of_le (hl b (by simp [F7, hb])) h.exc.size) (fun hm => (hd.d0 b hm) (List.mem_append_right _ (List.mem_append_right _ (List.mem_append_right _ (List.mem_append_right _ (List.mem_append_right _ (hb))))))))⟩, h.exc.trans (hx.sub (fun b hb => by simp [F7, hb])), h.box.of_block (hx.block _ h.box.lt (fun hm => Nat.lt_irrefl _ (hl _ (by simp [F7, hm]))))⟩
theorem MkSt.h {w wr : World} {c0 c : Cw} {v : C7} {Fq Fh Fr Fg Fo Ft Fs : List Nat} {w' : World} {zs : List Hd} (h : MkSt w wr c0 c v Fq Fh Fr Fg Fo Ft Fs) (hd : Dj7 Fq Fh Fr Fg Fo Ft Fs) (hl : ∀ b, b ∈ F7 Fq Fh Fr Fg Fo Ft Fs → b < w.heap.size) (hz : HOwn w' v.h zs Fh) (hx : Exc Fh wr w') : MkSt w w' c0 { c with hands := zs } v Fq Fh Fr Fg Fo Ft Fs :=
  ⟨⟨FlatOwn.carry h.own.q (fun b hb => hx.block b (Nat.lt_of_lt_of_le (hl b (by simp [F7, hb])) h.exc.size) (fun hm => (hd.d0 b hb) (List.mem_append_left _ hm))), hz, FlatOwn.carry h.own.r (fun b hb => hx.block b (Nat.lt_of_lt_of_le (hl b (by simp [F7, hb])) h.exc.size) (fun hm => (hd.d1 b hm) (List.mem_append_left _ hb))), FlatOwn.carry h.own.g (fun b hb => hx.block b (Nat.lt_of_lt_of_le (hl b (by simp [F7, hb])) h.exc.size) (fun hm => (hd.d1 b hm) (List.mem_append_right _ (List.mem_append_left _ hb)))), FlatOwn.carry h.own.o (fun b hb => hx.block b (Nat.lt_of_lt_of_le (hl b (by simp [F7, hb])) h.exc.size) (fun hm => (hd.d1 b hm) (List.mem_append_right _ (List.mem_append_right _ (List.mem_append_left _ hb))))), FlatOwn.carry h.own.t (fun b hb => hx.block b (Nat.lt_of_lt_of_le (hl b (by simp [F7, hb])) h.exc.size) (fun hm => (hd.d1 b hm) (List.mem_append_right _ (List.mem_append_right _ (List.mem_append_right _ (List.mem_append_left _ hb)))))), FlatOwn.carry h.own.s (fun b hb => hx.block b (Nat.lt_of_lt_of_le (hl b (by simp [F7, hb])) h.exc.size) (fun hm => (hd.d1 b hm) (List.mem_append_right _ (List.mem_append_right _ (List.mem_append_right _ (List.mem_append_right _ (hb)))))))⟩, h.exc.trans (hx.sub (fun b hb => by simp [F7, hb])), h.box.of_block (hx.block _ h.box.lt (fun hm => Nat.lt_irrefl _ (hl _ (by simp [F7, hm]))))⟩
theorem MkSt.r {w wr : World} {c0 c : Cw} {v : C7} {Fq Fh Fr Fg Fo Ft Fs : List Nat} {w' : World} {zs : List Int} (h : MkSt w wr c0 c v Fq Fh Fr Fg Fo Ft Fs) (hd : Dj7 Fq Fh Fr Fg Fo Ft Fs) (hl : ∀ b, b ∈ F7 Fq Fh Fr Fg Fo Ft Fs → b < w.heap.size) (hz : ZOwn w' v.r zs Fr) (hx : Exc Fr wr w') : MkSt w w' c0 { c with results := zs } v Fq Fh Fr Fg Fo Ft Fs :=
  ⟨⟨FlatOwn.carry h.own.q (fun b hb => hx.block b (Nat.lt_of_lt_of_le (hl b (by simp [F7, hb])) h.exc.size) (fun hm => (hd.d0 b hb) (List.mem_append_right _ (List.mem_append_left _ hm)))), FlatOwn.carry h.own.h (fun b hb => hx.block b (Nat.lt_of_lt_of_le (hl b (by simp [F7, hb])) h.exc.size) (fun hm => (hd.d1 b hb) (List.mem_append_left _ hm))), hz, FlatOwn.carry h.own.g (fun b hb => hx.block b (Nat.lt_of_lt_of_le (hl b (by simp [F7, hb])) h.exc.size) (fun hm => (hd.d2 b hm) (List.mem_append_left _ hb))), FlatOwn.carry h.own.o (fun b hb => hx.block b (Nat.lt_of_lt_of_le (hl b (by simp [F7, hb])) h.exc.size) (fun hm => (hd.d2 b hm) (List.mem_append_right _ (List.mem_append_left _ hb)))), FlatOwn.carry h.own.t (fun b hb => hx.block b (Nat.lt_of_lt_of_le (hl b (by simp [F7, hb])) h.exc.size) (fun hm => (hd.d2 b hm) (List.mem_append_right _ (List.mem_append_right _ (List.mem_append_left _ hb))))), FlatOwn.carry h.own.s (fun b hb => hx.block b (Nat.lt_of_lt_of_le (hl b (by simp [F7, hb])) h.exc.size) (fun hm => (hd.d2 b hm) (List.mem_append_right _ (List.mem_append_right _ (List.mem_append_right _ (hb))))))⟩, h.exc.trans (hx.sub (fun b hb => by simp [F7, hb])), h.box.of_block (hx.block _ h.box.lt (fun hm => Nat.lt_irrefl _ (hl _ (by simp [F7, hm]))))⟩
theorem MkSt.g {w wr : World} {c0 c : Cw} {v : C7} {Fq Fh Fr Fg Fo Ft Fs : List Nat} {w' : World} {zs : List Int} (h : MkSt w wr c0 c v Fq Fh Fr Fg Fo Ft Fs) (hd : Dj7 Fq Fh Fr Fg Fo Ft Fs) (hl : ∀ b, b ∈ F7 Fq Fh Fr Fg Fo Ft Fs → b < w.heap.size) (hz : ZOwn w' v.g zs Fg) (hx : Exc Fg wr w') : MkSt w w' c0 { c with ring := zs } v Fq Fh Fr Fg Fo Ft Fs :=
  ⟨⟨FlatOwn.carry h.own.q (fun b hb => hx.block b (Nat.lt_of_lt_of_le (hl b (by simp [F7, hb])) h.exc.size) (fun hm => (hd.d0 b hb) (List.mem_append_right _ (List.mem_append_right _ (List.mem_append_left _ hm))))), FlatOwn.carry h.own.h (fun b hb => hx.block b (Nat.lt_of_lt_of_le (hl b (by simp [F7, hb])) h.exc.size) (fun hm => (hd.d1 b hb) (List.mem_append_right _ (List.mem_append_left _ hm)))), FlatOwn.carry h.own.r (fun b hb => hx.block b (Nat.lt_of_lt_of_le (hl b (by simp [F7, hb])) h.exc.size) (fun hm => (hd.d2 b hb) (List.mem_append_left _ hm))), hz, FlatOwn.carry h.own.o (fun b hb => hx.block b (Nat.lt_of_lt_of_le (hl b (by simp [F7, hb])) h.exc.size) (fun hm => (hd.d3 b hm) (List.mem_append_left _ hb))), FlatOwn.carry h.own.t (fun b hb => hx.block b (Nat.lt_of_lt_of_le (hl b (by simp [F7, hb])) h.exc.size) (fun hm => (hd.d3 b hm) (List.mem_append_right _ (List.mem_append_left _ hb)))), FlatOwn.carry h.own.s (fun b hb => hx.block b (Nat.lt_of_lt_of_le (hl b (by simp [F7, hb])) h.exc.size) (fun hm => (hd.d3 b hm) (List.mem_append_right _ (List.mem_append_right _ (hb)))))⟩, h.exc.trans (hx.sub (fun b hb => by simp [F7, hb])), h.box.of_block (hx.block _ h.box.lt (fun hm => Nat.lt_irrefl _ (hl _ (by simp [F7, hm]))))⟩
theorem MkSt.o {w wr : World} {c0 c : Cw} {v : C7} {Fq Fh Fr Fg Fo Ft Fs : List Nat} {w' : World} {zs : List Int} (h : MkSt w wr c0 c v Fq Fh Fr Fg Fo Ft Fs) (hd : Dj7 Fq Fh Fr Fg Fo Ft Fs) (hl : ∀ b, b ∈ F7 Fq Fh Fr Fg Fo Ft Fs → b < w.heap.size) (hz : ZOwn w' v.o zs Fo) (hx : Exc Fo wr w') : MkSt w w' c0 { c with out := zs } v Fq Fh Fr Fg Fo Ft Fs :=
  ⟨⟨FlatOwn.carry h.own.q (fun b hb => hx.block b (Nat.lt_of_lt_of_le (hl b (by simp [F7, hb])) h.exc.size) (fun hm => (hd.d0 b hb) (List.mem_append_right _ (List.mem_append_right _ (List.mem_append_right _ (List.mem_append_left _ hm)))))), FlatOwn.carry h.own.h (fun b hb => hx.block b (Nat.lt_of_lt_of_le (hl b (by simp [F7, hb])) h.exc.size) (fun hm => (hd.d1 b hb) (List.mem_append_right _ (List.mem_append_right _ (List.mem_append_left _ hm))))), FlatOwn.carry h.own.r (fun b hb => hx.block b (Nat.lt_of_lt_of_le (hl b (by simp [F7, hb])) h.exc.size) (fun hm => (hd.d2 b hb) (List.mem_append_right _ (List.mem_append_left _ hm)))), FlatOwn.carry h.own.g (fun b hb => hx.block b (Nat.lt_of_lt_of_le (hl b (by simp [F7, hb])) h.exc.size) (fun hm => (hd.d3 b hb) (List.mem_append_left _ hm))), hz, FlatOwn.carry h.own.t (fun b hb => hx.block b (Nat.lt_of_lt_of_le (hl b (by simp [F7, hb])) h.exc.size) (fun hm => (hd.d4 b hm) (List.mem_append_left _ hb))), FlatOwn.carry h.own.s (fun b hb => hx.block b (Nat.lt_of_lt_of_le (hl b (by simp [F7, hb])) h.exc.size) (fun hm => (hd.d4 b hm) (List.mem_append_right _ (hb))))⟩, h.exc.trans (hx.sub (fun b hb => by simp [F7, hb])), h.box.of_block (hx.block _ h.box.lt (fun hm => Nat.lt_irrefl _ (hl _ (by simp [F7, hm]))))⟩
theorem MkSt.t {w wr : World} {c0 c : Cw} {v : C7} {Fq Fh Fr Fg Fo Ft Fs : List Nat} {w' : World} {zs : List Int} (h : MkSt w wr c0 c v Fq Fh Fr Fg Fo Ft Fs) (hd : Dj7 Fq Fh Fr Fg Fo Ft Fs) (hl : ∀ b, b ∈ F7 Fq Fh Fr Fg Fo Ft Fs → b < w.heap.size) (hz : ZOwn w' v.t zs Ft) (hx : Exc Ft wr w') : MkSt w w' c0 { c with got := zs } v Fq Fh Fr Fg Fo Ft Fs :=
  ⟨⟨FlatOwn.carry h.own.q (fun b hb => hx.block b (Nat.lt_of_lt_of_le (hl b (by simp [F7, hb])) h.exc.size) (fun hm => (hd.d0 b hb) (List.mem_append_right _ (List.mem_append_right _ (List.mem_append_right _ (List.mem_append_right _ (List.mem_append_left _ hm))))))), FlatOwn.carry h.own.h (fun b hb => hx.block b (Nat.lt_of_lt_of_le (hl b (by simp [F7, hb])) h.exc.size) (fun hm => (hd.d1 b hb) (List.mem_append_right _ (List.mem_append_right _ (List.mem_append_right _ (List.mem_append_left _ hm)))))), FlatOwn.carry h.own.r (fun b hb => hx.block b (Nat.lt_of_lt_of_le (hl b (by simp [F7, hb])) h.exc.size) (fun hm => (hd.d2 b hb) (List.mem_append_right _ (List.mem_append_right _ (List.mem_append_left _ hm))))), FlatOwn.carry h.own.g (fun b hb => hx.block b (Nat.lt_of_lt_of_le (hl b (by simp [F7, hb])) h.exc.size) (fun hm => (hd.d3 b hb) (List.mem_append_right _ (List.mem_append_left _ hm)))), FlatOwn.carry h.own.o (fun b hb => hx.block b (Nat.lt_of_lt_of_le (hl b (by simp [F7, hb])) h.exc.size) (fun hm => (hd.d4 b hb) (List.mem_append_left _ hm))), hz, FlatOwn.carry h.own.s (fun b hb => hx.block b (Nat.lt_of_lt_of_le (hl b (by simp [F7, hb])) h.exc.size) (fun hm => (hd.d5 b hm) (hb)))⟩, h.exc.trans (hx.sub (fun b hb => by simp [F7, hb])), h.box.of_block (hx.block _ h.box.lt (fun hm => Nat.lt_irrefl _ (hl _ (by simp [F7, hm]))))⟩
theorem MkSt.s {w wr : World} {c0 c : Cw} {v : C7} {Fq Fh Fr Fg Fo Ft Fs : List Nat} {w' : World} {zs : List Int} (h : MkSt w wr c0 c v Fq Fh Fr Fg Fo Ft Fs) (hd : Dj7 Fq Fh Fr Fg Fo Ft Fs) (hl : ∀ b, b ∈ F7 Fq Fh Fr Fg Fo Ft Fs → b < w.heap.size) (hz : ZOwn w' v.s zs Fs) (hx : Exc Fs wr w') : MkSt w w' c0 { c with shut := zs } v Fq Fh Fr Fg Fo Ft Fs :=
  ⟨⟨FlatOwn.carry h.own.q (fun b hb => hx.block b (Nat.lt_of_lt_of_le (hl b (by simp [F7, hb])) h.exc.size) (fun hm => (hd.d0 b hb) (List.mem_append_right _ (List.mem_append_right _ (List.mem_append_right _ (List.mem_append_right _ (List.mem_append_right _ (hm)))))))), FlatOwn.carry h.own.h (fun b hb => hx.block b (Nat.lt_of_lt_of_le (hl b (by simp [F7, hb])) h.exc.size) (fun hm => (hd.d1 b hb) (List.mem_append_right _ (List.mem_append_right _ (List.mem_append_right _ (List.mem_append_right _ (hm))))))), FlatOwn.carry h.own.r (fun b hb => hx.block b (Nat.lt_of_lt_of_le (hl b (by simp [F7, hb])) h.exc.size) (fun hm => (hd.d2 b hb) (List.mem_append_right _ (List.mem_append_right _ (List.mem_append_right _ (hm)))))), FlatOwn.carry h.own.g (fun b hb => hx.block b (Nat.lt_of_lt_of_le (hl b (by simp [F7, hb])) h.exc.size) (fun hm => (hd.d3 b hb) (List.mem_append_right _ (List.mem_append_right _ (hm))))), FlatOwn.carry h.own.o (fun b hb => hx.block b (Nat.lt_of_lt_of_le (hl b (by simp [F7, hb])) h.exc.size) (fun hm => (hd.d4 b hb) (List.mem_append_right _ (hm)))), FlatOwn.carry h.own.t (fun b hb => hx.block b (Nat.lt_of_lt_of_le (hl b (by simp [F7, hb])) h.exc.size) (fun hm => (hd.d5 b hb) (hm))), hz⟩, h.exc.trans (hx.sub (fun b hb => by simp [F7, hb])), h.box.of_block (hx.block _ h.box.lt (fun hm => Nat.lt_irrefl _ (hl _ (by simp [F7, hm]))))⟩
def mkC (c : Cw) : Nat := c.queue.length + 2 * c.hands.length + c.results.length + c.ring.length + c.out.length + c.got.length + c.shut.length
def mCw (k : Nat) (c : Cw) : Cw := { c with queue := mZs (k) c.queue.length, hands := mHs (k + c.queue.length) c.hands.length, results := mZs (k + c.queue.length + 2 * c.hands.length) c.results.length, ring := mZs (k + c.queue.length + 2 * c.hands.length + c.results.length) c.ring.length, out := mZs (k + c.queue.length + 2 * c.hands.length + c.results.length + c.ring.length) c.out.length, got := mZs (k + c.queue.length + 2 * c.hands.length + c.results.length + c.ring.length + c.out.length) c.got.length, shut := mZs (k + c.queue.length + 2 * c.hands.length + c.results.length + c.ring.length + c.out.length + c.got.length) c.shut.length }
set_option maxRecDepth 100000 in
set_option maxHeartbeats 3200000 in
theorem markCrewWorld_own (c : Cw) (v : C7) (Fq Fh Fr Fg Fo Ft Fs : List Nat) (k : Nat) (w : World) (hv : CwOwn w c v Fq Fh Fr Fg Fo Ft Fs) (hd : Dj7 Fq Fh Fr Fg Fo Ft Fs) (hl : ∀ b, b ∈ F7 Fq Fh Fr Fg Fo Ft Fs → b < w.heap.size) (hk : k + mkC c ≤ 1099511627776) :
    Calls Try.prog 9 #[.agg #[.int .i64 c.jobs, .int .i64 c.workers, .int .i64 c.window, .int .i64 c.next, .int .i64 c.reader, v.q, v.h, .int .i64 c.closer, v.r, .int .i64 c.keeper, v.g, .int .i64 c.due, v.o, .int .i64 c.user, v.t, .int .i64 c.room, v.s, .int .i64 c.ops], .int .i64 k] w fun e w' => e = .returned (.int .i64 (k + mkC c : Nat)) ∧ CwOwn w' (mCw k c) v Fq Fh Fr Fg Fo Ft Fs ∧ Exc (F7 Fq Fh Fr Fg Fo Ft Fs) w w' := by
  unfold mkC at hk
  have hst : ∀ o, o = Obj.cells #[.int .i64 c.jobs, .int .i64 c.workers, .int .i64 c.window, .int .i64 c.next, .int .i64 c.reader, v.q, v.h, .int .i64 c.closer, v.r, .int .i64 c.keeper, v.g, .int .i64 c.due, v.o, .int .i64 c.user, v.t, .int .i64 c.room, v.s, .int .i64 c.ops] 29 → MkSt w (w.alloc o) c c v Fq Fh Fr Fg Fo Ft Fs := fun o ho => by
    subst ho
    exact ⟨hv.carry (fun b hb => Below.heap_alloc _ _ _ (hl b hb)), Exc.of_below ((Below.refl _ _).alloc (Nat.le_refl _) _), box18 w c v 29⟩
  have HD := hide hd; have HL := hide hl; have HST := hide hst
  clear hv hd hl hst
  obtain ⟨nq, hnq⟩ : ∃ n, n = c.queue.length := ⟨_, rfl⟩
  obtain ⟨nh, hnh⟩ : ∃ n, n = c.hands.length := ⟨_, rfl⟩
  obtain ⟨nr, hnr⟩ : ∃ n, n = c.results.length := ⟨_, rfl⟩
  obtain ⟨ng, hng⟩ : ∃ n, n = c.ring.length := ⟨_, rfl⟩
  obtain ⟨no, hno⟩ : ∃ n, n = c.out.length := ⟨_, rfl⟩
  obtain ⟨nt, hnt⟩ : ∃ n, n = c.got.length := ⟨_, rfl⟩
  obtain ⟨ns, hns⟩ : ∃ n, n = c.shut.length := ⟨_, rfl⟩
  go_enter Try.func9, Try.ntmps9
  go_wp2_with fail
  refine (markIntZ_own v.q c.queue Fq (k) _ (unhide HST _ rfl).own.q (by omega)).mono ?_
  rintro e w1 ⟨rfl, hz1, hx1⟩
  have hst1 := MkSt.q (unhide HST _ rfl) (unhide HD) (unhide HL) hz1 hx1
  have k6 : w1.cell? ⟨w.heap.size, 6, none⟩ = some v.h := hst1.box.cell (i := 6) (by omega)
  have HC1 := hide (markCrewHandS_own v.h c.hands Fh (k + c.queue.length) w1 hst1.own.h (by omega))
  have ST1 := hide hst1
  clear hz1 hx1 hst1 HST
  go_wp2_with fail
  clear k6
  refine (unhide HC1).mono ?_
  rintro e w2 ⟨rfl, hz2, hx2⟩
  have hst2 := MkSt.h (unhide ST1) (unhide HD) (unhide HL) hz2 hx2
  have k8 : w2.cell? ⟨w.heap.size, 8, none⟩ = some v.r := hst2.box.cell (i := 8) (by omega)
  have HC2 := hide (markIntZ_own v.r c.results Fr (k + c.queue.length + 2 * c.hands.length) w2 hst2.own.r (by omega))
  have ST2 := hide hst2
  clear hz2 hx2 hst2 ST1 HC1
  go_wp2_with fail
  clear k8
  refine (unhide HC2).mono ?_
  rintro e w3 ⟨rfl, hz3, hx3⟩
  have hst3 := MkSt.r (unhide ST2) (unhide HD) (unhide HL) hz3 hx3
  have k10 : w3.cell? ⟨w.heap.size, 10, none⟩ = some v.g := hst3.box.cell (i := 10) (by omega)
  have HC3 := hide (markIntZ_own v.g c.ring Fg (k + c.queue.length + 2 * c.hands.length + c.results.length) w3 hst3.own.g (by omega))
  have ST3 := hide hst3
  clear hz3 hx3 hst3 ST2 HC2
  go_wp2_with fail
  clear k10
  refine (unhide HC3).mono ?_
  rintro e w4 ⟨rfl, hz4, hx4⟩
  have hst4 := MkSt.g (unhide ST3) (unhide HD) (unhide HL) hz4 hx4
  have k12 : w4.cell? ⟨w.heap.size, 12, none⟩ = some v.o := hst4.box.cell (i := 12) (by omega)
  have HC4 := hide (markIntZ_own v.o c.out Fo (k + c.queue.length + 2 * c.hands.length + c.results.length + c.ring.length) w4 hst4.own.o (by omega))
  have ST4 := hide hst4
  clear hz4 hx4 hst4 ST3 HC3
  go_wp2_with fail
  clear k12
  refine (unhide HC4).mono ?_
  rintro e w5 ⟨rfl, hz5, hx5⟩
  have hst5 := MkSt.o (unhide ST4) (unhide HD) (unhide HL) hz5 hx5
  have k14 : w5.cell? ⟨w.heap.size, 14, none⟩ = some v.t := hst5.box.cell (i := 14) (by omega)
  have HC5 := hide (markIntZ_own v.t c.got Ft (k + c.queue.length + 2 * c.hands.length + c.results.length + c.ring.length + c.out.length) w5 hst5.own.t (by omega))
  have ST5 := hide hst5
  clear hz5 hx5 hst5 ST4 HC4
  go_wp2_with fail
  clear k14
  refine (unhide HC5).mono ?_
  rintro e w6 ⟨rfl, hz6, hx6⟩
  have hst6 := MkSt.t (unhide ST5) (unhide HD) (unhide HL) hz6 hx6
  have k16 : w6.cell? ⟨w.heap.size, 16, none⟩ = some v.s := hst6.box.cell (i := 16) (by omega)
  have HC6 := hide (markIntZ_own v.s c.shut Fs (k + c.queue.length + 2 * c.hands.length + c.results.length + c.ring.length + c.out.length + c.got.length) w6 hst6.own.s (by omega))
  have ST6 := hide hst6
  clear hz6 hx6 hst6 ST5 HC5
  go_wp2_with fail
  clear k16
  refine (unhide HC6).mono ?_
  rintro e w7 ⟨rfl, hz7, hx7⟩
  have hst7 := MkSt.s (unhide ST6) (unhide HD) (unhide HL) hz7 hx7
  have HF := hide hst7
  clear hz7 hx7 hst7 ST6 HC6
  go_wp2_with fail
  go_ret
  exact ⟨ret_i (by unfold mkC; omega), (unhide HF).own, (unhide HF).exc⟩
set_option maxRecDepth 100000 in
set_option maxHeartbeats 3200000 in
theorem heldCrewWorld_any (c : Cw) (v : C7) (k : Nat) (w : World) {P : Nat → Prop} (hv : CwAt P w (mCw k c) v) (hP : ∀ b, P b → b < w.heap.size) (hk : k + mkC c ≤ 1099511627776) (c1 : Cw) :
    Calls Try.prog 10 #[.agg #[.int .i64 c1.jobs, .int .i64 c1.workers, .int .i64 c1.window, .int .i64 c1.next, .int .i64 c1.reader, v.q, v.h, .int .i64 c1.closer, v.r, .int .i64 c1.keeper, v.g, .int .i64 c1.due, v.o, .int .i64 c1.user, v.t, .int .i64 c1.room, v.s, .int .i64 c1.ops], .int .i64 k] w fun e w' => e = .returned (.int .i64 (k + mkC c : Nat)) ∧ Below w.heap.size w w' := by
  unfold mkC at hk
  have hb0 : ∀ o, Below w.heap.size w (w.alloc o) := fun o => (Below.refl _ _).alloc (Nat.le_refl _) o
  have HQ := hide (fun (W : World) (hW : Below w.heap.size w W) => heldIntZ_any v.q c.queue.length (k) W (hv.q.carry (fun b hb => hW.block b (hP b hb)) (fun _ h => h)) (fun b hb => Nat.lt_of_lt_of_le (hP b hb) hW.size) (by omega))
  have HH := hide (fun (W : World) (hW : Below w.heap.size w W) => heldCrewHandS_any v.h c.hands.length (k + c.queue.length) W (hv.h.carry (fun b hb => hW.block b (hP b hb)) (fun _ h => h)) (fun b hb => Nat.lt_of_lt_of_le (hP b hb) hW.size) (by omega))
  have HR := hide (fun (W : World) (hW : Below w.heap.size w W) => heldIntZ_any v.r c.results.length (k + c.queue.length + 2 * c.hands.length) W (hv.r.carry (fun b hb => hW.block b (hP b hb)) (fun _ h => h)) (fun b hb => Nat.lt_of_lt_of_le (hP b hb) hW.size) (by omega))
  have HG := hide (fun (W : World) (hW : Below w.heap.size w W) => heldIntZ_any v.g c.ring.length (k + c.queue.length + 2 * c.hands.length + c.results.length) W (hv.g.carry (fun b hb => hW.block b (hP b hb)) (fun _ h => h)) (fun b hb => Nat.lt_of_lt_of_le (hP b hb) hW.size) (by omega))
  have HO := hide (fun (W : World) (hW : Below w.heap.size w W) => heldIntZ_any v.o c.out.length (k + c.queue.length + 2 * c.hands.length + c.results.length + c.ring.length) W (hv.o.carry (fun b hb => hW.block b (hP b hb)) (fun _ h => h)) (fun b hb => Nat.lt_of_lt_of_le (hP b hb) hW.size) (by omega))
  have HT := hide (fun (W : World) (hW : Below w.heap.size w W) => heldIntZ_any v.t c.got.length (k + c.queue.length + 2 * c.hands.length + c.results.length + c.ring.length + c.out.length) W (hv.t.carry (fun b hb => hW.block b (hP b hb)) (fun _ h => h)) (fun b hb => Nat.lt_of_lt_of_le (hP b hb) hW.size) (by omega))
  have HS := hide (fun (W : World) (hW : Below w.heap.size w W) => heldIntZ_any v.s c.shut.length (k + c.queue.length + 2 * c.hands.length + c.results.length + c.ring.length + c.out.length + c.got.length) W (hv.s.carry (fun b hb => hW.block b (hP b hb)) (fun _ h => h)) (fun b hb => Nat.lt_of_lt_of_le (hP b hb) hW.size) (by omega))
  have HR1 := hide (box18 w c1 v 29)
  have HB0 := hide hb0
  clear hv hP hb0
  go_enter Try.func10, Try.ntmps10
  go_wp2_with fail
  refine (unhide HQ _ (unhide HB0 _)).mono ?_
  rintro e w1 ⟨rfl, hb1⟩
  have q1 := (unhide HR1).of_block (hb1.block w.heap.size (by simp))
  have B1 := hide ((unhide HB0 _).trans (hb1.mono (unhide HB0 _).size))
  have k6 : w1.cell? ⟨w.heap.size, 6, none⟩ = some v.h := q1.cell (i := 6) (by omega)
  have Q1 := hide q1
  clear hb1 q1 HR1 HB0
  go_wp2_with fail
  clear k6
  refine (unhide HH _ (unhide B1)).mono ?_
  rintro e w2 ⟨rfl, hb2⟩
  have q2 := (unhide Q1).of_block (hb2.block _ (unhide Q1).lt)
  have B2 := hide ((unhide B1).trans (hb2.mono (unhide B1).size))
  have k8 : w2.cell? ⟨w.heap.size, 8, none⟩ = some v.r := q2.cell (i := 8) (by omega)
  have Q2 := hide q2
  clear hb2 q2 Q1 B1
  go_wp2_with fail
  clear k8
  refine (unhide HR _ (unhide B2)).mono ?_
  rintro e w3 ⟨rfl, hb3⟩
  have q3 := (unhide Q2).of_block (hb3.block _ (unhide Q2).lt)
  have B3 := hide ((unhide B2).trans (hb3.mono (unhide B2).size))
  have k10 : w3.cell? ⟨w.heap.size, 10, none⟩ = some v.g := q3.cell (i := 10) (by omega)
  have Q3 := hide q3
  clear hb3 q3 Q2 B2
  go_wp2_with fail
  clear k10
  refine (unhide HG _ (unhide B3)).mono ?_
  rintro e w4 ⟨rfl, hb4⟩
  have q4 := (unhide Q3).of_block (hb4.block _ (unhide Q3).lt)
  have B4 := hide ((unhide B3).trans (hb4.mono (unhide B3).size))
  have k12 : w4.cell? ⟨w.heap.size, 12, none⟩ = some v.o := q4.cell (i := 12) (by omega)
  have Q4 := hide q4
  clear hb4 q4 Q3 B3
  go_wp2_with fail
  clear k12
  refine (unhide HO _ (unhide B4)).mono ?_
  rintro e w5 ⟨rfl, hb5⟩
  have q5 := (unhide Q4).of_block (hb5.block _ (unhide Q4).lt)
  have B5 := hide ((unhide B4).trans (hb5.mono (unhide B4).size))
  have k14 : w5.cell? ⟨w.heap.size, 14, none⟩ = some v.t := q5.cell (i := 14) (by omega)
  have Q5 := hide q5
  clear hb5 q5 Q4 B4
  go_wp2_with fail
  clear k14
  refine (unhide HT _ (unhide B5)).mono ?_
  rintro e w6 ⟨rfl, hb6⟩
  have q6 := (unhide Q5).of_block (hb6.block _ (unhide Q5).lt)
  have B6 := hide ((unhide B5).trans (hb6.mono (unhide B5).size))
  have k16 : w6.cell? ⟨w.heap.size, 16, none⟩ = some v.s := q6.cell (i := 16) (by omega)
  have Q6 := hide q6
  clear hb6 q6 Q5 B5
  go_wp2_with fail
  clear k16
  refine (unhide HS _ (unhide B6)).mono ?_
  rintro e w7 ⟨rfl, hb7⟩
  have q7 := (unhide Q6).of_block (hb7.block _ (unhide Q6).lt)
  have B7 := hide ((unhide B6).trans (hb7.mono (unhide B6).size))
  clear hb7 q7 Q6 B6
  go_wp2_with fail
  go_ret
  exact ⟨ret_i (by unfold mkC; omega), unhide B7⟩
end Go.Proofs.Ytibgjcejddpldaa

/- The walks of the program's sizesOk, newCrewRing, and all of an empty ring. No conditions. -/

namespace Go.Proofs.Ytibgjcejddpldaa
open Go Go.RowKit

set_option maxRecDepth 100000 in
set_option maxHeartbeats 1600000 in
theorem sizesOk_any (j k n : Int) (w : World) : Calls Try.prog 47 #[.int .i64 j, .int .i64 k, .int .i64 n] w fun e w' => e = .returned (.bool (decide ((0 ≤ j ∧ j ≤ 60) ∧ (1 ≤ k ∧ k ≤ 8) ∧ (1 ≤ n ∧ n ≤ 16)))) ∧ Below w.heap.size w w' := by
  have HIN := hide (fun z lo hi W => frInP z lo hi W)
  go_enter Try.func47, Try.ntmps47
  go_wp2_with fail
  refine (unhide HIN _ _ _ _).mono ?_
  rintro e w1 ⟨rfl, hb1⟩
  have B1 := hide hb1
  clear hb1
  by_cases h1 : 0 ≤ j ∧ j ≤ 60
  case neg =>
    have HF := hide (show decide ((0 ≤ j ∧ j ≤ 60) ∧ (1 ≤ k ∧ k ≤ 8) ∧ (1 ≤ n ∧ n ≤ 16)) = false from decide_eq_false fun h => h1 h.1)
    rw [decide_eq_false h1]
    clear h1
    go_wp2_with fail
    go_ret
    exact ⟨by rw [unhide HF]; rfl, unhide B1⟩
  rw [decide_eq_true h1]
  have H1 := hide h1
  clear h1
  go_wp2_with fail
  refine (unhide HIN _ _ _ _).mono ?_
  rintro e w2 ⟨rfl, hb2⟩
  have B2 := hide ((unhide B1).trans (hb2.mono (unhide B1).size))
  clear hb2 B1
  by_cases h2 : 1 ≤ k ∧ k ≤ 8
  case neg =>
    have HF := hide (show decide ((0 ≤ j ∧ j ≤ 60) ∧ (1 ≤ k ∧ k ≤ 8) ∧ (1 ≤ n ∧ n ≤ 16)) = false from decide_eq_false fun h => h2 h.2.1)
    rw [decide_eq_false h2]
    clear h2
    go_wp2_with fail
    go_ret
    exact ⟨by rw [unhide HF]; rfl, unhide B2⟩
  rw [decide_eq_true h2]
  have HE := hide (show decide (1 ≤ n ∧ n ≤ 16) = decide ((0 ≤ j ∧ j ≤ 60) ∧ (1 ≤ k ∧ k ≤ 8) ∧ (1 ≤ n ∧ n ≤ 16)) from decide_eq_decide.2 ⟨fun h => ⟨unhide H1, h2, h⟩, fun h => h.2.2⟩)
  clear h2
  go_wp2_with fail
  refine (unhide HIN _ _ _ _).mono ?_
  rintro e w3 ⟨rfl, hb3⟩
  have B3 := hide ((unhide B2).trans (hb3.mono (unhide B2).size))
  clear hb3 B2
  generalize decide (1 ≤ n ∧ n ≤ 16) = b3 at HE ⊢
  go_wp2_with fail
  go_ret
  exact ⟨by rw [← unhide HE]; rfl, unhide B3⟩

/-- A ring of numbers: its box of four cells, its places. -/
def rg4 (v : Value) (first count shut : Int) (i : Nat) : Value := [v, .int .i64 first, .int .i64 count, .int .i64 shut].getD i undef

set_option maxRecDepth 100000 in
set_option maxHeartbeats 800000 in
theorem newRing_any (n : Nat) (w : World) (hn : n ≤ 1048576) : Calls Try.prog 52 #[.int .i64 n] w fun e w' => e = .returned (.pointer (some ⟨w.heap.size + 1, 0, none⟩)) ∧ w'.rowIs (w.heap.size + 1) 64 4 (rg4 (.slice (some ⟨w.heap.size, 0, none⟩) n n) 0 0 0) ∧ w'.rowIs w.heap.size 3 n (fun _ => .int .i64 0) ∧ w'.heap.size = w.heap.size + 2 ∧ Below w.heap.size w w' := by
  have hmk := run_make_row' (P := Try.prog) 22 3 (.int .i64 0) 8 Try.underlying22 infoIntM rfl .i64 .i64 n (by omega) (by omega)
  go_enter Try.func52, Try.ntmps52
  go_wp2_with fail
  go_ret
  refine ⟨by simp, ?_, (World.rowIs_made w (.int .i64 0) n _).alloc _, by simp, ((Below.refl _ _).alloc (Nat.le_refl _) _).alloc (by simp) _⟩
  have := World.rowIs_alloc (w.alloc (.cells (madeCells #[.int .i64 0] n) 3)) #[.slice (some ⟨w.heap.size, 0, none⟩) n n, .int .i64 0, .int .i64 0, .int .i64 0] 64 (rg4 (.slice (some ⟨w.heap.size, 0, none⟩) n n) 0 0 0) (fun i hi => by
    have hi' : i < 4 := hi
    rcases (show i = 0 ∨ i = 1 ∨ i = 2 ∨ i = 3 by omega) with rfl | rfl | rfl | rfl <;> rfl)
  rw [World.size_alloc] at this
  exact this

end Go.Proofs.Ytibgjcejddpldaa

/- The walks of the program's newCrewRing, put, fill at places. No conditions. -/

namespace Go.Proofs.Ytibgjcejddpldaa
open Go Go.RowKit

theorem infoPlaceM : (Try.prog.info? 67).map (fun i => (i.zero, i.size, i.bytes)) = some (some (.agg #[]), 0, 0) := by kernel_rfl
/-- Places take no cells. -/
theorem run_make_place (n : Nat) (hn : n ≤ 1048576) (w : World) : (Instr.makeSlice 60 (.int .i64 (n : Int)) (.int .i64 (n : Int))).run Try.prog w = .ok (.slice (some ⟨w.heap.size, 0, none⟩) n n) (w.alloc (.cells (madeCells #[] 0) 67)) := by
  obtain ⟨i, hi, hzz⟩ := Option.map_eq_some_iff.1 infoPlaceM
  simp only [Prod.mk.injEq] at hzz
  obtain ⟨hz, hs, hb⟩ := hzz
  have hr := run_make (P := Try.prog) w 60 67 i (.agg #[]) Try.underlying60 hi hz .i64 .i64 n n (by omega) (Int.le_refl _) (by rw [hb]; omega) (by omega)
  simp only [Int.toNat_natCast, hs, Nat.mul_zero] at hr
  exact hr
set_option maxRecDepth 100000 in
set_option maxHeartbeats 800000 in
theorem newRingP_any (n : Nat) (w : World) (hn : n ≤ 1048576) : Calls Try.prog 53 #[.int .i64 n] w fun e w' => e = .returned (.pointer (some ⟨w.heap.size + 1, 0, none⟩)) ∧ w'.rowIs (w.heap.size + 1) 62 4 (rg4 (.slice (some ⟨w.heap.size, 0, none⟩) n n) 0 0 0) ∧ w'.heap.size = w.heap.size + 2 ∧ Below w.heap.size w w' := by
  have hmk := run_make_place n hn
  go_enter Try.func53, Try.ntmps53
  go_wp2_with fail
  go_ret
  refine ⟨by simp, ?_, by simp, ((Below.refl _ _).alloc (Nat.le_refl _) _).alloc (by simp) _⟩
  have := World.rowIs_alloc (w.alloc (.cells (madeCells #[] 0) 67)) #[.slice (some ⟨w.heap.size, 0, none⟩) n n, .int .i64 0, .int .i64 0, .int .i64 0] 62 (rg4 (.slice (some ⟨w.heap.size, 0, none⟩) n n) 0 0 0) (fun i hi => by
    have hi' : i < 4 := hi
    rcases (show i = 0 ∨ i = 1 ∨ i = 2 ∨ i = 3 by omega) with rfl | rfl | rfl | rfl <;> rfl)
  rw [World.size_alloc] at this
  exact this
end Go.Proofs.Ytibgjcejddpldaa

/- The walks of the program's put, fill at places. No conditions. -/

namespace Go.Proofs.Ytibgjcejddpldaa
open Go Go.RowKit

set_option maxRecDepth 100000 in
set_option maxHeartbeats 1600000 in
theorem putP_any (b p n c : Nat) (s : Int) (w : World) (h : w.rowIs b 62 4 (rg4 (.slice (some ⟨p, 0, none⟩) n n) 0 c s)) (hc : c < n) (hn : n ≤ 1048576) : Calls Try.prog 63 #[.pointer (some ⟨b, 0, none⟩), .agg #[]] w fun e w' => e = .returned (.tuple #[]) ∧ w'.rowIs b 62 4 (rg4 (.slice (some ⟨p, 0, none⟩) n n) 0 ((c : Int) + 1) s) ∧ Exc [b] w w' := by
  have c0 := h.cell (i := 0) (by omega); have c1 := h.cell (i := 1) (by omega); have c2 := h.cell (i := 2) (by omega); have f2 := h.frozen 2
  simp only [rg4, List.getD_cons_zero, List.getD_cons_succ] at c0 c1 c2
  have hlt := h.lt
  have a0 : ∀ o, (w.alloc o).cell? ⟨b, 0, none⟩ = some (.slice (some ⟨p, 0, none⟩) n n) := fun o => (World.cell?_of_block (a := ⟨b, 0, none⟩) (Below.heap_alloc w o _ hlt)).trans c0
  have a1 : ∀ o, (w.alloc o).cell? ⟨b, 1, none⟩ = some (.int .i64 0) := fun o => (World.cell?_of_block (a := ⟨b, 1, none⟩) (Below.heap_alloc w o _ hlt)).trans c1
  have a2 : ∀ o, (w.alloc o).cell? ⟨b, 2, none⟩ = some (.int .i64 c) := fun o => (World.cell?_of_block (a := ⟨b, 2, none⟩) (Below.heap_alloc w o _ hlt)).trans c2
  have g2 : ∀ o, (w.alloc o).frozen? ⟨b, 2, none⟩ = false := fun o => (h.alloc o).frozen 2
  have hw0 : IntKind.i64.wrap (0 + (c : Int)) = c := by rw [IntKind.wrap_i64]; omega
  have hw1 : IntKind.i64.wrap ((c : Int) + 1) = (c : Int) + 1 := by rw [IntKind.wrap_i64]; omega
  have hrem : (c : Int).tmod (n : Int) = c := Int.tmod_eq_of_lt (Int.natCast_nonneg c) (Int.ofNat_lt.2 hc)
  have hn0 : ¬ ((n : Int) = 0) := by omega
  have HR := hide (h.alloc (.cells #[] 67))
  have HX := hide (show Exc [b] w (w.alloc (.cells #[] 67)) from Exc.of_below ((Below.refl _ _).alloc (Nat.le_refl _) _))
  clear h
  go_enter Try.func63, Try.ntmps63
  go_wp2_with fail
  have b0 := a0 (.cells #[] 67); have b1 := a1 (.cells #[] 67); have b2 := a2 (.cells #[] 67); have bf := g2 (.cells #[] 67)
  clear a0 a1 a2 g2 c0 c1 c2 f2
  generalize w.alloc (.cells #[] 67) = W at b0 b1 b2 bf HR HX ⊢
  generalize w.heap.size = B
  go_region
  have d2 : W.drew.cell? ⟨b, 2, none⟩ = some (.int .i64 c) := b2
  have df : W.drew.frozen? ⟨b, 2, none⟩ = false := bf
  go_wp2_with fail
  go_end0
  refine ⟨rfl, ?_, ?_⟩
  · refine ((unhide HR).drew.set 2 (.int .i64 ((c : Int) + 1))).congr fun i hi => ?_
    rcases (show i = 0 ∨ i = 1 ∨ i = 2 ∨ i = 3 by omega) with rfl | rfl | rfl | rfl <;> rfl
  · exact ((unhide HX).trans (Exc.of_below (Below.refl _ _).drew)).trans (Exc.set _ b 2 _ (by simp))

set_option maxRecDepth 100000 in
set_option maxHeartbeats 1600000 in
theorem fillP_any (b p n : Nat) (q : Addr) (s : Int) (w : World) (h : w.rowIs b 62 4 (rg4 (.slice (some ⟨p, 0, none⟩) n n) 0 0 s)) (hn : n ≤ 1048576) : Calls Try.prog 54 #[.pointer (some ⟨b, 0, none⟩), .slice (some q) n n] w fun e w' => e = .returned (.tuple #[]) ∧ w'.rowIs b 62 4 (rg4 (.slice (some ⟨p, 0, none⟩) n n) 0 n s) ∧ Exc [b] w w' := by
  have HP := hide (fun (c : Nat) (W : World) hW hc => putP_any b p n c s W hW hc hn)
  have H0 := hide h
  clear h
  go_enter Try.func54, Try.ntmps54
  go_wp2_with fail
  go_loopw [8] (fun i wr => ∃ (c : Nat), c ≤ n ∧ i = .int .i64 c ∧ Hid (wr.rowIs b 62 4 (rg4 (.slice (some ⟨p, 0, none⟩) n n) 0 c s)) ∧ Hid (Exc [b] w wr)) (fun i _ => n - (intOf i).toNat)
  case atStart => exact ⟨0, Nat.zero_le _, rfl, H0, hide (Exc.refl _ _)⟩
  case round =>
    obtain ⟨c, hc, rfl, HR, HX⟩ := hrel
    by_cases hlt : c < n
    · go_wp2_with (go_at_call 63; refine (unhide HP c _ (HR.out.alloc _) hlt).mono ?_; rintro e w2 ⟨rfl, hr2, hx2⟩; have HR2 := hide hr2; have HX2 := hide ((HX.out.trans (Exc.of_below ((Below.refl _ _).alloc (Nat.le_refl _) _))).trans hx2); clear hr2 hx2)
      go_roundw
      case rel => exact ⟨c + 1, by omega, by go_num, HR2, HX2⟩
      case measure => simp [intOf]; omega
    · obtain rfl : c = n := by omega
      go_wp2_with fail
      go_end0
      exact ⟨rfl, HR.out, HX.out⟩
end Go.Proofs.Ytibgjcejddpldaa
