/- A crew's world as plain data, and how it lies in memory. No program, no conditions. -/
import Derived.Test.YtchlbncncipecaaDkOwn
namespace Go.Proofs.Ytchlbncncipecaa
open Go Go.RowKit

structure Hd where
  (state job : Int)
instance : Inhabited Hd := ⟨⟨0, 0⟩⟩
def Hd.cs (h : Hd) : List Value := [.int .i64 h.state, .int .i64 h.job]
def zcs (z : Int) : List Value := [.int .i64 z]
def ZAt (P : Nat → Prop) (w : World) (v : Value) (zs : List Int) : Prop := FlatAt P w v 1 (zs.map zcs)
def HAt (P : Nat → Prop) (w : World) (v : Value) (hs : List Hd) : Prop := FlatAt P w v 2 (hs.map Hd.cs)
def ZOwn (w : World) (v : Value) (zs : List Int) (F : List Nat) : Prop := FlatOwn w v 1 (zs.map zcs) F
def HOwn (w : World) (v : Value) (hs : List Hd) (F : List Nat) : Prop := FlatOwn w v 2 (hs.map Hd.cs) F
theorem ZAt.carry {P Q : Nat → Prop} {w w' : World} {v : Value} {zs : List Int} (h : ZAt P w v zs) (hP : ∀ b, P b → w'.heap[b]? = w.heap[b]?) (hQ : ∀ b, P b → Q b) : ZAt Q w' v zs := FlatAt.carry h hP hQ
theorem HAt.carry {P Q : Nat → Prop} {w w' : World} {v : Value} {hs : List Hd} (h : HAt P w v hs) (hP : ∀ b, P b → w'.heap[b]? = w.heap[b]?) (hQ : ∀ b, P b → Q b) : HAt Q w' v hs := FlatAt.carry h hP hQ
theorem ZAt.open {P : Nat → Prop} {w : World} {v : Value} {zs : List Int} (h : ZAt P w v zs) : ∃ a cap, v = .slice a zs.length cap ∧ zs.length ≤ 9223372036854775807 ∧
    ∀ i, (hi : i < zs.length) → ∃ b o, a = some ⟨b, o, none⟩ ∧ P b ∧ w.cell? ⟨b, o + i, none⟩ = some (.int .i64 zs[i]) := by
  obtain ⟨a, cap, h1, h2, h3⟩ := h
  rw [List.length_map] at h1 h2
  refine ⟨a, cap, h1, h2, fun i hi => ?_⟩
  obtain ⟨b, o, e, hb, hc⟩ := h3 i (by rw [List.length_map]; exact hi)
  have c0 := hc 0 (by omega)
  simp only [List.getElem_map, zcs, Nat.add_zero, Nat.mul_one, List.getD_cons_zero] at c0
  exact ⟨b, o, e, hb, c0⟩
theorem HAt.open {P : Nat → Prop} {w : World} {v : Value} {hs : List Hd} (h : HAt P w v hs) : ∃ a cap, v = .slice a hs.length cap ∧ hs.length ≤ 9223372036854775807 ∧
    ∀ i, (hi : i < hs.length) → ∃ b o, a = some ⟨b, o, none⟩ ∧ P b ∧ w.cell? ⟨b, o + i * 2, none⟩ = some (.int .i64 hs[i].state) ∧ w.cell? ⟨b, o + i * 2 + 1, none⟩ = some (.int .i64 hs[i].job) := by
  obtain ⟨a, cap, h1, h2, h3⟩ := h
  rw [List.length_map] at h1 h2
  refine ⟨a, cap, h1, h2, fun i hi => ?_⟩
  obtain ⟨b, o, e, hb, hc⟩ := h3 i (by rw [List.length_map]; exact hi)
  have c0 := hc 0 (by omega); have c1 := hc 1 (by omega)
  simp only [List.getElem_map, Hd.cs, Nat.add_zero, List.getD_cons_zero, List.getD_cons_succ] at c0 c1
  exact ⟨b, o, e, hb, c0, c1⟩

/-- A world. -/
structure Cw where
  (jobs workers window next reader : Int) (queue : List Int) (hands : List Hd) (closer : Int) (results : List Int) (keeper : Int) (ring : List Int) (due : Int) (out : List Int) (user : Int) (got : List Int) (room : Int) (shut : List Int) (ops : Int)
/-- The values of its seven lists. -/
structure C7 where
  (q h r g o t s : Value)
def Cw.cells (c : Cw) (v : C7) : Array Value := #[.int .i64 c.jobs, .int .i64 c.workers, .int .i64 c.window, .int .i64 c.next, .int .i64 c.reader, v.q, v.h, .int .i64 c.closer, v.r, .int .i64 c.keeper, v.g, .int .i64 c.due, v.o, .int .i64 c.user, v.t, .int .i64 c.room, v.s, .int .i64 c.ops]
structure CwAt (P : Nat → Prop) (w : World) (c : Cw) (v : C7) : Prop where
  q : ZAt P w v.q c.queue
  h : HAt P w v.h c.hands
  r : ZAt P w v.r c.results
  g : ZAt P w v.g c.ring
  o : ZAt P w v.o c.out
  t : ZAt P w v.t c.got
  s : ZAt P w v.s c.shut
theorem CwAt.carry {P Q : Nat → Prop} {w w' : World} {c : Cw} {v : C7} (h : CwAt P w c v) (hP : ∀ b, P b → w'.heap[b]? = w.heap[b]?) (hQ : ∀ b, P b → Q b) : CwAt Q w' c v :=
  ⟨h.q.carry hP hQ, h.h.carry hP hQ, h.r.carry hP hQ, h.g.carry hP hQ, h.o.carry hP hQ, h.t.carry hP hQ, h.s.carry hP hQ⟩
/-- A world in blocks of its own: seven lists of them. -/
structure CwOwn (w : World) (c : Cw) (v : C7) (Fq Fh Fr Fg Fo Ft Fs : List Nat) : Prop where
  q : ZOwn w v.q c.queue Fq
  h : HOwn w v.h c.hands Fh
  r : ZOwn w v.r c.results Fr
  g : ZOwn w v.g c.ring Fg
  o : ZOwn w v.o c.out Fo
  t : ZOwn w v.t c.got Ft
  s : ZOwn w v.s c.shut Fs
def F7 (Fq Fh Fr Fg Fo Ft Fs : List Nat) : List Nat := Fq ++ (Fh ++ (Fr ++ (Fg ++ (Fo ++ (Ft ++ Fs)))))
theorem CwOwn.carry {w w' : World} {c : Cw} {v : C7} {Fq Fh Fr Fg Fo Ft Fs : List Nat} (h : CwOwn w c v Fq Fh Fr Fg Fo Ft Fs) (hF : ∀ b, b ∈ F7 Fq Fh Fr Fg Fo Ft Fs → w'.heap[b]? = w.heap[b]?) : CwOwn w' c v Fq Fh Fr Fg Fo Ft Fs :=
  ⟨FlatOwn.carry h.q (fun b hb => hF b (by simp [F7, hb])), FlatOwn.carry h.h (fun b hb => hF b (by simp [F7, hb])), FlatOwn.carry h.r (fun b hb => hF b (by simp [F7, hb])), FlatOwn.carry h.g (fun b hb => hF b (by simp [F7, hb])), FlatOwn.carry h.o (fun b hb => hF b (by simp [F7, hb])), FlatOwn.carry h.t (fun b hb => hF b (by simp [F7, hb])), FlatOwn.carry h.s (fun b hb => hF b (by simp [F7, hb]))⟩
theorem CwOwn.at {w : World} {c : Cw} {v : C7} {Fq Fh Fr Fg Fo Ft Fs : List Nat} (h : CwOwn w c v Fq Fh Fr Fg Fo Ft Fs) : CwAt (· ∈ F7 Fq Fh Fr Fg Fo Ft Fs) w c v :=
  ⟨(FlatOwn.at h.q).carry (fun _ _ => rfl) (fun b hb => by simp [F7, hb]), (FlatOwn.at h.h).carry (fun _ _ => rfl) (fun b hb => by simp [F7, hb]), (FlatOwn.at h.r).carry (fun _ _ => rfl) (fun b hb => by simp [F7, hb]), (FlatOwn.at h.g).carry (fun _ _ => rfl) (fun b hb => by simp [F7, hb]), (FlatOwn.at h.o).carry (fun _ _ => rfl) (fun b hb => by simp [F7, hb]), (FlatOwn.at h.t).carry (fun _ _ => rfl) (fun b hb => by simp [F7, hb]), (FlatOwn.at h.s).carry (fun _ _ => rfl) (fun b hb => by simp [F7, hb])⟩
end Go.Proofs.Ytchlbncncipecaa
