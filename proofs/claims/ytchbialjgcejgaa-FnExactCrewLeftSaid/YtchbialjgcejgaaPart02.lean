/- The first tree of a schema, as plain data; trees gathered in a row of the call's own. Definitions and small laws; no program walked, no conditions. -/
import Derived.Test.YtchbialjgcejgaaPart00
import Derived.Test.YtchbialjgcejgaaPart01
import Derived.Test.YtchbialjgcejgaaRows
import Derived.Deep.RegionWith
namespace Go.Proofs.Ytchbialjgcejgaa
open Go Go.RowKit

mutual
/-- The first tree of a schema that is ok. -/
def fT : Kd → Tr
  | .mk s ns ks => if s = 5 then .mk 5 0 ByteArray.empty ns (fTs ks) else .mk s 0 ByteArray.empty [] []
def fTs : List Kd → List Tr
  | [] => []
  | t :: r => fT t :: fTs r
end
theorem fT_form {t : Kd} (h : t.sort = 5) : fT t = .mk 5 0 ByteArray.empty t.names (fTs t.kids) := by
  obtain ⟨s, ns, ks⟩ := t; have h' : s = 5 := h; rw [fT, if_pos h']; rfl
theorem fT_else {t : Kd} (h : t.sort ≠ 5) : fT t = .mk t.sort 0 ByteArray.empty [] [] := by
  obtain ⟨s, ns, ks⟩ := t; have h' : s ≠ 5 := h; rw [fT, if_neg h']; rfl
theorem fTs_map (ks : List Kd) : fTs ks = ks.map fT := by
  induction ks with
  | nil => rw [fTs]; rfl
  | cons a r ih => rw [fTs, ih]; rfl

def c5l (c : C5) : List Value := [c.c0, c.c1, c.c2, c.c3, c.c4]

/-- Trees whose cells stand in a row, each in blocks of its own. -/
def OwnL (w : World) : List Tr → List Value → List Nat → Prop
  | [], xs, G => xs = [] ∧ G = []
  | t :: r, xs, G => ∃ c F G' xs', xs = c5l c ++ xs' ∧ G = F ++ G' ∧ Own w t c F ∧ OwnL w r xs' G'

theorem OwnL.snoc {w : World} {ks : List Tr} {xs : List Value} {G F : List Nat} {t : Tr} {c : C5} (h : OwnL w ks xs G) (ht : Own w t c F) : OwnL w (ks ++ [t]) (xs ++ c5l c) (G ++ F) := by
  induction ks generalizing xs G with
  | nil =>
    obtain ⟨rfl, rfl⟩ := h
    exact ⟨c, F, [], [], by simp, by simp, ht, rfl, rfl⟩
  | cons a r ih =>
    obtain ⟨d, F1, G', xs', rfl, rfl, h1, h2⟩ := h
    exact ⟨d, F1, G' ++ F, xs' ++ c5l c, by simp, by simp, h1, ih h2⟩

theorem OwnL.carry {w w' : World} {ks : List Tr} {xs : List Value} {G : List Nat} (h : OwnL w ks xs G) (hb : ∀ b, b ∈ G → w'.heap[b]? = w.heap[b]?) : OwnL w' ks xs G := by
  induction ks generalizing xs G with
  | nil => exact h
  | cons a r ih =>
    obtain ⟨d, F1, G', xs', rfl, rfl, h1, h2⟩ := h
    exact ⟨d, F1, G', xs', rfl, rfl, Own.carry a d F1 (fun b hb' => hb b (by simp [hb'])) h1, ih h2 (fun b hb' => hb b (by simp [hb']))⟩

theorem OwnL.ownK {w : World} {g : Nat} {ks : List Tr} {xs : List Value} {G : List Nat} {o : Nat} (h : OwnL w ks xs G) (hc : ∀ j u, xs[j]? = some u → w.cell? ⟨g, o + j, none⟩ = some u) : OwnK w g o ks G := by
  induction ks generalizing xs G o with
  | nil => rw [OwnK]; exact h.2
  | cons a r ih =>
    obtain ⟨d, F1, G', xs', rfl, rfl, h1, h2⟩ := h
    rw [OwnK]
    refine ⟨F1, G', d, rfl, ⟨hc 0 _ rfl, hc 1 _ rfl, hc 2 _ rfl, hc 3 _ rfl, hc 4 _ rfl⟩, h1, ih h2 (fun j u hj => ?_)⟩
    have := hc (5 + j) u (by
      rw [List.getElem?_append_right (by simp [c5l]), show 5 + j - (c5l d).length = j from by simp [c5l]]; exact hj)
    rw [show o + 5 + j = o + (5 + j) from by omega]; exact this

theorem freeOfHeap {w : World} {g : Nat} {cur : Array Value} {e : TypeId} (h : w.heap[g]? = some (.cells cur e (0, 0))) : FreeB w g := fun o => by simp [World.frozen?, h]

/-- A row of strings of the call's own. -/
theorem strsOwn_of_row {base : Nat} {w : World} {v : Value} {ss : List ByteArray} (h : w.ownsRow base 9 1 v ss.length (ss.map Value.string)) (hs : ∀ x, x ∈ ss → x.size ≤ 9223372036854775807) :
    ∃ F, StrsOwn w v ss F ∧ F.Nodup ∧ (∀ b, b ∈ F → base ≤ b ∧ b < w.heap.size) ∧ ∀ b, b ∈ F → v.ownBlock = some b := by
  rcases h.2 with ⟨hv, hn0⟩ | ⟨g, cap, cur, hv, hgb, hh, hle, hm2, hsz, htk⟩
  · have hss : ss = [] := List.eq_nil_of_length_eq_zero hn0
    subst hss
    exact ⟨[], ⟨none, 0, hv, by simp, Or.inl ⟨rfl, rfl⟩⟩, List.nodup_nil, fun b hb => by simp at hb, fun b hb => by simp at hb⟩
  · refine ⟨[g], ⟨some ⟨g, 0, none⟩, cap, hv, by unfold maxLen at hm2; omega, Or.inr ⟨g, rfl, rfl, freeOfHeap hh, fun i hi => ⟨?_, hs _ (List.getElem_mem hi)⟩⟩⟩, by simp, fun b hb => ?_, fun b hb => by simp at hb; subst hb; rw [hv]; rfl⟩
    · have h1 : (ss.map Value.string)[i]? = some (.string ss[i]) := by simp [hi]
      rw [← htk, List.getElem?_take_of_lt (by omega)] at h1
      simp only [World.cell?, hh]
      simpa using h1
    · simp at hb; subst hb
      exact ⟨hgb, (Array.getElem?_eq_some_iff.1 hh).1⟩

theorem cell_five (w : World) (c : C5) (t : TypeId) : ∀ j u, (c5l c)[j]? = some u → (w.alloc (.cells #[c.c0, c.c1, c.c2, c.c3, c.c4] t)).cell? ((⟨w.heap.size, 0, none⟩ : Addr).add j) = some u := by
  intro j u hj
  have hrow := row5_alloc w c.c0 c.c1 c.c2 c.c3 c.c4 t
  rw [Addr.add_lit, Nat.zero_add]
  match j with
  | 0 => rw [hrow.cell (by omega)]; exact hj
  | 1 => rw [hrow.cell (by omega)]; exact hj
  | 2 => rw [hrow.cell (by omega)]; exact hj
  | 3 => rw [hrow.cell (by omega)]; exact hj
  | 4 => rw [hrow.cell (by omega)]; exact hj
  | j + 5 => simp [c5l] at hj

theorem Own.one {w : World} {t : Tr} {c : C5} {F : List Nat} (h : Own w t c F) : ∀ u ∈ c5l c, u.oneCell' = true := by
  obtain ⟨h0, h1, h2, -, -, -, F1, F2, -, ⟨a, cap, h3, -⟩, a2, cap2, h4, -⟩ := h.open
  intro u hu
  simp only [c5l, h0, h1, h2, h3, h4, List.mem_cons, List.not_mem_nil, or_false] at hu
  rcases hu with rfl | rfl | rfl | rfl | rfl <;> rfl
end Go.Proofs.Ytchbialjgcejgaa

/- Disks that own their memory: definitions and small laws, no program. No conditions. -/

namespace Go.Proofs.Ytchbialjgcejgaa
open Go Go.RowKit

/-- Rows of n cells each, in a block of their own. -/
def FlatOwn (w : World) (v : Value) (n : Nat) (rs : List (List Value)) (F : List Nat) : Prop :=
  ∃ a cap, v = .slice a rs.length cap ∧ rs.length ≤ 9223372036854775807 ∧ ((rs = [] ∧ F = []) ∨ ∃ b, a = some ⟨b, 0, none⟩ ∧ F = [b] ∧ FreeB w b ∧ ∀ i, (h : i < rs.length) → ∀ j, j < n → w.cell? ⟨b, i * n + j, none⟩ = some (rs[i].getD j undef))
theorem FlatOwn.carry {w w' : World} {v : Value} {n : Nat} {rs : List (List Value)} {F : List Nat} (h : FlatOwn w v n rs F) (hF : ∀ b, b ∈ F → w'.heap[b]? = w.heap[b]?) : FlatOwn w' v n rs F := by
  obtain ⟨a, cap, h1, h2, h3⟩ := h
  refine ⟨a, cap, h1, h2, ?_⟩
  rcases h3 with h | ⟨b, e, rfl, hf, hc⟩
  · exact Or.inl h
  · have hb := hF b (by simp)
    exact Or.inr ⟨b, e, rfl, hf.of_block hb, fun i hi j hj => by rw [World.cell?_of_block (w := w) hb]; exact hc i hi j hj⟩
theorem FlatOwn.at {w : World} {v : Value} {n : Nat} {rs : List (List Value)} {F : List Nat} (h : FlatOwn w v n rs F) : FlatAt (· ∈ F) w v n rs := by
  obtain ⟨a, cap, h1, h2, h3⟩ := h
  refine ⟨a, cap, h1, h2, fun i hi => ?_⟩
  rcases h3 with ⟨rfl, -⟩ | ⟨b, e, rfl, hf, hc⟩
  · simp at hi
  · exact ⟨b, 0, e, by simp, fun j hj => by rw [Nat.zero_add]; exact hc i hi j hj⟩
theorem FlatOwn.nil (w : World) (n : Nat) : FlatOwn w (.slice none 0 0) n [] [] := ⟨none, 0, rfl, by simp, Or.inl ⟨rfl, rfl⟩⟩
theorem flat_get {n : Nat} : ∀ (rs : List (List Value)), (∀ r, r ∈ rs → r.length = n) → ∀ (i : Nat) (hi : i < rs.length) (j : Nat), j < n → rs.flatten[i * n + j]? = some (rs[i].getD j undef)
  | r :: rest, hn, 0, _, j, hj => by
    have hr : r.length = n := hn r List.mem_cons_self
    rw [List.flatten_cons, Nat.zero_mul, Nat.zero_add, List.getElem?_append_left (by omega), List.getElem?_eq_getElem (by omega)]
    simp [hr, hj]
  | r :: rest, hn, i + 1, hi, j, hj => by
    have hr : r.length = n := hn r List.mem_cons_self
    rw [List.flatten_cons, List.getElem?_append_right (by rw [hr, Nat.add_mul]; omega), hr, show (i + 1) * n + j - n = i * n + j by rw [Nat.add_mul]; omega, flat_get rest (fun x hx => hn x (List.mem_cons_of_mem _ hx)) i (by simpa using hi) j hj]
    rfl
theorem flat_len {n : Nat} : ∀ (rs : List (List Value)), (∀ r, r ∈ rs → r.length = n) → rs.flatten.length = rs.length * n
  | [], _ => by simp
  | r :: rest, hn => by
    rw [List.flatten_cons, List.length_append, flat_len rest (fun x hx => hn x (List.mem_cons_of_mem _ hx)), hn r List.mem_cons_self, List.length_cons, Nat.add_mul]; omega
/-- A row of the call's own is such. -/
theorem FlatOwn.of_row {base : Nat} {w : World} {v : Value} {e : TypeId} {n : Nat} {rs : List (List Value)} (h : w.ownsRow base e n v rs.length rs.flatten) (hn : ∀ r, r ∈ rs → r.length = n) :
    ∃ F, FlatOwn w v n rs F ∧ (∀ b, b ∈ F → v.ownBlock = some b) ∧ (∀ b, b ∈ F → base ≤ b ∧ b < w.heap.size) ∧ F.Nodup := by
  rcases h.2 with ⟨hv, h0⟩ | ⟨g, cap, cur, hv, hb, hh, hle, hm, hsz, htk⟩
  · have : rs = [] := List.eq_nil_of_length_eq_zero h0
    subst this
    exact ⟨[], ⟨none, 0, hv, by simp, Or.inl ⟨rfl, rfl⟩⟩, fun b hb => (by cases hb), fun b hb => (by cases hb), List.nodup_nil⟩
  · refine ⟨[g], ⟨some ⟨g, 0, none⟩, cap, hv, by unfold maxLen at hm; omega, Or.inr ⟨g, rfl, rfl, freeOfHeap hh, fun i hi j hj => ?_⟩⟩, fun b hb => ?_, fun b hb => ?_, by simp⟩
    · have h1 := flat_get rs hn i hi j hj
      have hlt : i * n + j < rs.length * n := by
        have : (i + 1) * n ≤ rs.length * n := Nat.mul_le_mul_right n hi
        rw [Nat.add_mul] at this; omega
      rw [← htk, List.getElem?_take_of_lt hlt] at h1
      simp only [World.cell?, hh]
      simpa using h1
    · simp at hb; subst hb; rw [hv]; rfl
    · simp at hb; subst hb
      exact ⟨by assumption, (Array.getElem?_eq_some_iff.1 hh).1⟩

/-- Files, moves in blocks of their own. -/
def FsOwn (w : World) (v : Value) (fs : List Df) (F : List Nat) : Prop := FlatOwn w v 3 (fs.map Df.cs) F ∧ ∀ f, f ∈ fs → f.okM
def MsOwn (w : World) (v : Value) (ms : List Dm) (F : List Nat) : Prop := FlatOwn w v 2 (ms.map Dm.cs) F ∧ ∀ m, m ∈ ms → m.okM
/-- A disk in blocks of its own. -/
structure DkOwn (w : World) (d : Dk) (c : C3) (F0 F1 F2 : List Nat) : Prop where
  fs : FsOwn w c.c0 d.files F0
  ns : StrsOwn w c.c1 d.names F1
  ms : MsOwn w c.c2 d.moves F2
theorem DkOwn.carry {w w' : World} {d : Dk} {c : C3} {F0 F1 F2 : List Nat} (h : DkOwn w d c F0 F1 F2) (hF : ∀ b, b ∈ F0 ++ F1 ++ F2 → w'.heap[b]? = w.heap[b]?) : DkOwn w' d c F0 F1 F2 :=
  ⟨⟨h.fs.1.carry (fun b hb => hF b (by simp [hb])), h.fs.2⟩, h.ns.carry (fun b hb => hF b (by simp [hb])), ⟨h.ms.1.carry (fun b hb => hF b (by simp [hb])), h.ms.2⟩⟩
theorem DkOwn.at {w : World} {d : Dk} {c : C3} {F0 F1 F2 : List Nat} (h : DkOwn w d c F0 F1 F2) : DkAt (· ∈ F0 ++ F1 ++ F2) w d c :=
  ⟨⟨h.fs.1.at.carry (fun _ _ => rfl) (fun b hb => by simp [hb]), h.fs.2⟩, h.ns.at.carry (fun _ _ => rfl) (fun b hb => by simp [hb]), ⟨h.ms.1.at.carry (fun _ _ => rfl) (fun b hb => by simp [hb]), h.ms.2⟩⟩
theorem DkOwn.none (w : World) : DkOwn w ⟨[], [], []⟩ ⟨.slice none 0 0, .slice none 0 0, .slice none 0 0⟩ [] [] [] :=
  ⟨⟨FlatOwn.nil w 3, fun f hf => (by cases hf)⟩, ⟨Option.none, 0, rfl, by simp, Or.inl ⟨rfl, rfl⟩⟩, ⟨FlatOwn.nil w 2, fun f hf => (by cases hf)⟩⟩
end Go.Proofs.Ytchbialjgcejgaa

/- A crew's world as plain data, and how it lies in memory. No program, no conditions. -/

namespace Go.Proofs.Ytchbialjgcejgaa
open Go Go.RowKit

structure Hd where
  (state job : Int)
instance : Inhabited Hd := ⟨⟨0, 0⟩⟩
def Hd.cs (h : Hd) : List Value := [.int .i64 h.state, .int .i64 h.job]
def zcs (z : Int) : List Value := [.int .i64 z]
def ZAt (P : Nat → Prop) (w : World) (v : Value) (zs : List Int) : Prop := FlatAt P w v 1 (zs.map zcs)
def HAt (P : Nat → Prop) (w : World) (v : Value) (hs : List Hd) : Prop := FlatAt P w v 2 (hs.map Hd.cs)
def ZOwn (w : World) (v : Value) (zs : List Int) (F : List Nat) : Prop := FlatOwn w v 1 (zs.map zcs) F
def HOwn (w : World) (v : Value) (hs : List Hd) (F : List Nat) : Prop := FlatOwn w v 2 (hs.map Hd.cs) F
theorem ZAt.carry {P Q : Nat → Prop} {w w' : World} {v : Value} {zs : List Int} (h : ZAt P w v zs) (hP : ∀ b, P b → w'.heap[b]? = w.heap[b]?) (hQ : ∀ b, P b → Q b) : ZAt Q w' v zs := FlatAt.carry h hP hQ
theorem HAt.carry {P Q : Nat → Prop} {w w' : World} {v : Value} {hs : List Hd} (h : HAt P w v hs) (hP : ∀ b, P b → w'.heap[b]? = w.heap[b]?) (hQ : ∀ b, P b → Q b) : HAt Q w' v hs := FlatAt.carry h hP hQ
theorem ZAt.open {P : Nat → Prop} {w : World} {v : Value} {zs : List Int} (h : ZAt P w v zs) : ∃ a cap, v = .slice a zs.length cap ∧ zs.length ≤ 9223372036854775807 ∧
    ∀ i, (hi : i < zs.length) → ∃ b o, a = some ⟨b, o, none⟩ ∧ P b ∧ w.cell? ⟨b, o + i, none⟩ = some (.int .i64 zs[i]) := by
  obtain ⟨a, cap, h1, h2, h3⟩ := h
  rw [List.length_map] at h1 h2
  refine ⟨a, cap, h1, h2, fun i hi => ?_⟩
  obtain ⟨b, o, e, hb, hc⟩ := h3 i (by rw [List.length_map]; exact hi)
  have c0 := hc 0 (by omega)
  simp only [List.getElem_map, zcs, Nat.add_zero, Nat.mul_one, List.getD_cons_zero] at c0
  exact ⟨b, o, e, hb, c0⟩
theorem HAt.open {P : Nat → Prop} {w : World} {v : Value} {hs : List Hd} (h : HAt P w v hs) : ∃ a cap, v = .slice a hs.length cap ∧ hs.length ≤ 9223372036854775807 ∧
    ∀ i, (hi : i < hs.length) → ∃ b o, a = some ⟨b, o, none⟩ ∧ P b ∧ w.cell? ⟨b, o + i * 2, none⟩ = some (.int .i64 hs[i].state) ∧ w.cell? ⟨b, o + i * 2 + 1, none⟩ = some (.int .i64 hs[i].job) := by
  obtain ⟨a, cap, h1, h2, h3⟩ := h
  rw [List.length_map] at h1 h2
  refine ⟨a, cap, h1, h2, fun i hi => ?_⟩
  obtain ⟨b, o, e, hb, hc⟩ := h3 i (by rw [List.length_map]; exact hi)
  have c0 := hc 0 (by omega); have c1 := hc 1 (by omega)
  simp only [List.getElem_map, Hd.cs, Nat.add_zero, List.getD_cons_zero, List.getD_cons_succ] at c0 c1
  exact ⟨b, o, e, hb, c0, c1⟩

/-- A world. -/
structure Cw where
  (jobs workers window next reader : Int) (queue : List Int) (hands : List Hd) (closer : Int) (results : List Int) (keeper : Int) (ring : List Int) (due : Int) (out : List Int) (user : Int) (got : List Int) (room : Int) (shut : List Int) (ops : Int)
/-- The values of its seven lists. -/
structure C7 where
  (q h r g o t s : Value)
def Cw.cells (c : Cw) (v : C7) : Array Value := #[.int .i64 c.jobs, .int .i64 c.workers, .int .i64 c.window, .int .i64 c.next, .int .i64 c.reader, v.q, v.h, .int .i64 c.closer, v.r, .int .i64 c.keeper, v.g, .int .i64 c.due, v.o, .int .i64 c.user, v.t, .int .i64 c.room, v.s, .int .i64 c.ops]
structure CwAt (P : Nat → Prop) (w : World) (c : Cw) (v : C7) : Prop where
  q : ZAt P w v.q c.queue
  h : HAt P w v.h c.hands
  r : ZAt P w v.r c.results
  g : ZAt P w v.g c.ring
  o : ZAt P w v.o c.out
  t : ZAt P w v.t c.got
  s : ZAt P w v.s c.shut
theorem CwAt.carry {P Q : Nat → Prop} {w w' : World} {c : Cw} {v : C7} (h : CwAt P w c v) (hP : ∀ b, P b → w'.heap[b]? = w.heap[b]?) (hQ : ∀ b, P b → Q b) : CwAt Q w' c v :=
  ⟨h.q.carry hP hQ, h.h.carry hP hQ, h.r.carry hP hQ, h.g.carry hP hQ, h.o.carry hP hQ, h.t.carry hP hQ, h.s.carry hP hQ⟩
/-- A world in blocks of its own: seven lists of them. -/
structure CwOwn (w : World) (c : Cw) (v : C7) (Fq Fh Fr Fg Fo Ft Fs : List Nat) : Prop where
  q : ZOwn w v.q c.queue Fq
  h : HOwn w v.h c.hands Fh
  r : ZOwn w v.r c.results Fr
  g : ZOwn w v.g c.ring Fg
  o : ZOwn w v.o c.out Fo
  t : ZOwn w v.t c.got Ft
  s : ZOwn w v.s c.shut Fs
def F7 (Fq Fh Fr Fg Fo Ft Fs : List Nat) : List Nat := Fq ++ (Fh ++ (Fr ++ (Fg ++ (Fo ++ (Ft ++ Fs)))))
theorem CwOwn.carry {w w' : World} {c : Cw} {v : C7} {Fq Fh Fr Fg Fo Ft Fs : List Nat} (h : CwOwn w c v Fq Fh Fr Fg Fo Ft Fs) (hF : ∀ b, b ∈ F7 Fq Fh Fr Fg Fo Ft Fs → w'.heap[b]? = w.heap[b]?) : CwOwn w' c v Fq Fh Fr Fg Fo Ft Fs :=
  ⟨FlatOwn.carry h.q (fun b hb => hF b (by simp [F7, hb])), FlatOwn.carry h.h (fun b hb => hF b (by simp [F7, hb])), FlatOwn.carry h.r (fun b hb => hF b (by simp [F7, hb])), FlatOwn.carry h.g (fun b hb => hF b (by simp [F7, hb])), FlatOwn.carry h.o (fun b hb => hF b (by simp [F7, hb])), FlatOwn.carry h.t (fun b hb => hF b (by simp [F7, hb])), FlatOwn.carry h.s (fun b hb => hF b (by simp [F7, hb]))⟩
theorem CwOwn.at {w : World} {c : Cw} {v : C7} {Fq Fh Fr Fg Fo Ft Fs : List Nat} (h : CwOwn w c v Fq Fh Fr Fg Fo Ft Fs) : CwAt (· ∈ F7 Fq Fh Fr Fg Fo Ft Fs) w c v :=
  ⟨(FlatOwn.at h.q).carry (fun _ _ => rfl) (fun b hb => by simp [F7, hb]), (FlatOwn.at h.h).carry (fun _ _ => rfl) (fun b hb => by simp [F7, hb]), (FlatOwn.at h.r).carry (fun _ _ => rfl) (fun b hb => by simp [F7, hb]), (FlatOwn.at h.g).carry (fun _ _ => rfl) (fun b hb => by simp [F7, hb]), (FlatOwn.at h.o).carry (fun _ _ => rfl) (fun b hb => by simp [F7, hb]), (FlatOwn.at h.t).carry (fun _ _ => rfl) (fun b hb => by simp [F7, hb]), (FlatOwn.at h.s).carry (fun _ _ => rfl) (fun b hb => by simp [F7, hb])⟩
end Go.Proofs.Ytchbialjgcejgaa

/- The walks of markText and markStringS: the text of a mark; strings that own their memory are marked in place, and nothing else turns. For marks up to 2^40. -/

namespace Go.Proofs.Ytchbialjgcejgaa
open Go Go.RowKit

theorem mtl_step {j : Nat} (h : j ≠ 0) (o : ByteArray) : mtl j o = mtl (j / 10) (⟨#[dg ((j : Int) % 10)]⟩ ++ o) := by
  conv => lhs; rw [mtl]
  rw [dif_neg h]
  have : dg ((j : Int) % 10) = UInt8.ofNat (48 + j % 10) := by unfold dg; rw [show ((j : Int) % 10).toNat = j % 10 from by omega]
  rw [this]
theorem mtl_zero (o : ByteArray) : mtl 0 o = o := by rw [mtl]; simp

theorem quo10' {n : Int} (h0 : 0 ≤ n) (h1 : n ≤ 1099511627776) : IntKind.i64.wrap (n.tdiv 10) = n / 10 := by
  rw [IntKind.wrap_i64, Int.tdiv_eq_ediv_of_nonneg h0]; omega

/-- What the loop of markStringS has marked after k rounds. -/
def MrkS (w : World) (b : Nat) (ss : List ByteArray) (k0 k : Nat) : Prop :=
  FreeB w b ∧ ∀ i, (h : i < ss.length) → w.cell? ⟨b, i, none⟩ = some (.string (if i < k then mtx (k0 + i) else ss[i])) ∧ ss[i].size ≤ 9223372036854775807

theorem MrkS.step {w : World} {b : Nat} {ss : List ByteArray} {k0 k : Nat} (h : MrkS w b ss k0 k) (hk : k < ss.length) : MrkS (w.setCell ⟨b, k, none⟩ (.string (mtx (k0 + k)))) b ss k0 (k + 1) := by
  refine ⟨h.1.set _ _, fun i hi => ⟨?_, (h.2 i hi).2⟩⟩
  by_cases e : i = k
  · subst e
    have := (h.2 i hi).1
    rw [if_pos (by omega)]
    simp [go_sem, this]
  · have := (h.2 i hi).1
    rw [show (if i < k + 1 then mtx (k0 + i) else ss[i]) = (if i < k then mtx (k0 + i) else ss[i]) from by
      by_cases e2 : i < k
      · rw [if_pos e2, if_pos (by omega)]
      · rw [if_neg e2, if_neg (by omega)]]
    rw [← this]
    simp [go_sem]
theorem MrkS.of_block {w w' : World} {b : Nat} {ss : List ByteArray} {k0 k : Nat} (h : MrkS w b ss k0 k) (e : w'.heap[b]? = w.heap[b]?) : MrkS w' b ss k0 k :=
  ⟨h.1.of_block e, fun i hi => ⟨by rw [World.cell?_of_block (w := w) (a := ⟨b, i, none⟩) e]; exact (h.2 i hi).1, (h.2 i hi).2⟩⟩

end Go.Proofs.Ytchbialjgcejgaa

/- The walk of markStringS over a shape: it ends, and turns cells of the shape's own blocks alone, each into one of its kind. The marks count to at most 2^40. -/

namespace Go.Proofs.Ytchbialjgcejgaa
open Go Go.RowKit

end Go.Proofs.Ytchbialjgcejgaa

/- The walks of the law's markDiskFileS, markDiskMoveS, markDisk over a shape: they end, and turn cells of the shape's own blocks alone, each into one of its kind. The marks count to at most 2^40. -/

namespace Go.Proofs.Ytchbialjgcejgaa
open Go Go.RowKit

/-- A slice of so many files, in blocks of D of which nothing is frozen. -/
def FShp (D : Nat → Prop) (w : World) (v : Value) (n : Nat) : Prop :=
  ∃ a cap, v = .slice a n cap ∧ n ≤ 9223372036854775807 ∧ ∀ i, i < n → ∃ b o s1 s2 k, a = some ⟨b, o, none⟩ ∧ D b ∧ FreeB w b ∧ w.cell? ⟨b, o + i * 3, none⟩ = some (.string s1) ∧ w.cell? ⟨b, o + i * 3 + 1, none⟩ = some (.string s2) ∧ w.cell? ⟨b, o + i * 3 + 2, none⟩ = some (.int .i64 k)
theorem FShp.like {D : Nat → Prop} {w w' : World} {v : Value} {n : Nat} (h : FShp D w v n) (hl : Like D w w') : FShp D w' v n := by
  obtain ⟨a, cap, h1, h2, h3⟩ := h
  refine ⟨a, cap, h1, h2, fun i hi => ?_⟩
  obtain ⟨b, o, s1, s2, k, e, hd, hf, c0, c1, c2⟩ := h3 i hi
  obtain ⟨v0, hv0, l0⟩ := hl.cell _ _ _ c0
  obtain ⟨v1, hv1, l1⟩ := hl.cell _ _ _ c1
  obtain ⟨v2, hv2, l2⟩ := hl.cell _ _ _ c2
  obtain ⟨s1', rfl⟩ := l0.str
  obtain ⟨s2', rfl⟩ := l1.str
  obtain ⟨k', rfl⟩ := l2.int
  exact ⟨b, o, s1', s2', k', e, hd, hl.free b (World.block_lt_of_cell? w _ c0) hf, hv0, hv1, hv2⟩
/-- A slice of so many moves, likewise. -/
def MShp (D : Nat → Prop) (w : World) (v : Value) (n : Nat) : Prop :=
  ∃ a cap, v = .slice a n cap ∧ n ≤ 9223372036854775807 ∧ ∀ i, i < n → ∃ b o x s, a = some ⟨b, o, none⟩ ∧ D b ∧ FreeB w b ∧ w.cell? ⟨b, o + i * 2, none⟩ = some (.bool x) ∧ w.cell? ⟨b, o + i * 2 + 1, none⟩ = some (.string s)
theorem MShp.like {D : Nat → Prop} {w w' : World} {v : Value} {n : Nat} (h : MShp D w v n) (hl : Like D w w') : MShp D w' v n := by
  obtain ⟨a, cap, h1, h2, h3⟩ := h
  refine ⟨a, cap, h1, h2, fun i hi => ?_⟩
  obtain ⟨b, o, x, s, e, hd, hf, c0, c1⟩ := h3 i hi
  obtain ⟨v0, hv0, l0⟩ := hl.cell _ _ _ c0
  obtain ⟨v1, hv1, l1⟩ := hl.cell _ _ _ c1
  obtain ⟨x', rfl⟩ := l0.bool
  obtain ⟨s', rfl⟩ := l1.str
  exact ⟨b, o, x', s', e, hd, hl.free b (World.block_lt_of_cell? w _ c0) hf, hv0, hv1⟩
/-- Three cells are the shape of a disk. -/
structure DShp (D : Nat → Prop) (w : World) (d : Dk) (c : C3) : Prop where
  fs : FShp D w c.c0 d.files.length
  ns : SShp D w c.c1 d.names.length
  ms : MShp D w c.c2 d.moves.length
theorem DkAt.shp {D : Nat → Prop} {w : World} {d : Dk} {c : C3} (h : DkAt D w d c) (hf : ∀ b, D b → FreeB w b) : DShp D w d c := by
  refine ⟨?_, ?_, ?_⟩
  · obtain ⟨a, cap, h1, h2, h3⟩ := h.fs.open
    refine ⟨a, cap, h1, h2, fun i hi => ?_⟩
    obtain ⟨b, o, e, hb, ⟨c0, c1, c2⟩, -⟩ := h3 i hi
    exact ⟨b, o, _, _, _, e, hb, hf b hb, c0, c1, c2⟩
  · obtain ⟨a, cap, h1, h2, h3⟩ := h.ns
    refine ⟨a, cap, h1, h2, fun i hi => ?_⟩
    obtain ⟨b, o, e, hb, hc, -⟩ := h3 i hi
    exact ⟨b, o, _, e, hb, hf b hb, hc⟩
  · obtain ⟨a, cap, h1, h2, h3⟩ := h.ms.open
    refine ⟨a, cap, h1, h2, fun i hi => ?_⟩
    obtain ⟨b, o, e, hb, c0, c1, -⟩ := h3 i hi
    exact ⟨b, o, _, _, e, hb, hf b hb, c0, c1⟩
theorem DShp.like {D : Nat → Prop} {w w' : World} {d : Dk} {c : C3} (h : DShp D w d c) (hl : Like D w w') : DShp D w' d c := ⟨h.fs.like hl, h.ns.like hl, h.ms.like hl⟩

/-- How many marks a disk takes. -/
def mkD (d : Dk) : Nat := 3 * d.files.length + d.names.length + 2 * d.moves.length

end Go.Proofs.Ytchbialjgcejgaa

/- The walks of the law's markDiskFileS, markDiskMoveS, markDisk over a disk that owns its memory: what is marked then, and that nothing else turns. The marks count to at most 2^40. -/

namespace Go.Proofs.Ytchbialjgcejgaa
open Go Go.RowKit

/-- The cells of a block, none of them frozen. -/
def CellsAre (w : World) (b N : Nat) (f : Nat → Value) : Prop := FreeB w b ∧ ∀ q, q < N → w.cell? ⟨b, q, none⟩ = some (f q)
theorem CellsAre.of_block {w w' : World} {b N : Nat} {f : Nat → Value} (h : CellsAre w b N f) (e : w'.heap[b]? = w.heap[b]?) : CellsAre w' b N f :=
  ⟨h.1.of_block e, fun q hq => by rw [World.cell?_of_block (w := w) (a := ⟨b, q, none⟩) e]; exact h.2 q hq⟩
def partF (f g : Nat → Value) (p : Nat) : Nat → Value := fun q => if q < p then f q else g q
theorem CellsAre.step {w : World} {b N : Nat} {f g : Nat → Value} {p : Nat} (h : CellsAre w b N (partF f g p)) (hp : p < N) (u : Value) (hu : u = f p) : CellsAre (w.setCell ⟨b, p, none⟩ u) b N (partF f g (p + 1)) := by
  refine ⟨h.1.set _ _, fun q hq => ?_⟩
  by_cases e : q = p
  · subst e
    rw [World.cell?_setCell_same w _ u (h.2 q hq)]
    unfold partF; rw [if_pos (by omega), hu]
  · rw [World.cell?_setCell_other w _ _ u (by intro e2; cases e2; exact e rfl), h.2 q hq]
    unfold partF
    by_cases h2 : q < p
    · rw [if_pos h2, if_pos (by omega)]
    · rw [if_neg h2, if_neg (by omega)]

/-- What stands in the cells of marked files, of marked moves. -/
def mkF (k q : Nat) : Value := if q % 3 = 2 then .int .i64 ((k + q : Nat) : Int) else .string (mtx (k + q))
def mkM (k q : Nat) : Value := if q % 2 = 0 then .bool (((k + q : Nat) : Int).tmod 3 == 0) else .string (mtx (k + q))
/-- Marked files, moves. -/
def mFs (k n : Nat) : List Df := (List.range n).map fun i => ⟨mtx (k + 3 * i), mtx (k + 3 * i + 1), ((k + 3 * i + 2 : Nat) : Int)⟩
def mMs (k n : Nat) : List Dm := (List.range n).map fun i => ⟨((k + 2 * i : Nat) : Int).tmod 3 == 0, mtx (k + 2 * i + 1)⟩
def mDk (k : Nat) (d : Dk) : Dk := ⟨mFs k d.files.length, mS (k + 3 * d.files.length) d.names, mMs (k + 3 * d.files.length + d.names.length) d.moves.length⟩

theorem FlatOwn.cells {w : World} {b n : Nat} {rs : List (List Value)} (h : ∀ i, (h : i < rs.length) → ∀ j, j < n → w.cell? ⟨b, i * n + j, none⟩ = some (rs[i].getD j undef)) (hf : FreeB w b) (hn : 0 < n) : CellsAre w b (rs.length * n) (fun q => (rs.getD (q / n) []).getD (q % n) undef) := by
  refine ⟨hf, fun q hq => ?_⟩
  have hi : q / n < rs.length := (Nat.div_lt_iff_lt_mul hn).2 hq
  have := h (q / n) hi (q % n) (Nat.mod_lt _ hn)
  rw [show q / n * n + q % n = q by rw [Nat.mul_comm]; exact Nat.div_add_mod q n] at this
  rw [this]
  simp [List.getD, hi]

theorem mFs_ok {k n : Nat} (hk : k + 3 * n ≤ 1099511627776) : ∀ f, f ∈ mFs k n → f.okM := fun f hf => by
  obtain ⟨i, hi, rfl⟩ := List.mem_map.1 hf
  rw [List.mem_range] at hi
  have h1 := mtx_size (k + 3 * i); have h2 := mtx_size (k + 3 * i + 1)
  exact ⟨by simp only; omega, by simp only; omega, ⟨by simp only; omega, by simp only; omega⟩⟩
theorem mMs_ok {k n : Nat} (hk : k + 2 * n ≤ 1099511627776) : ∀ f, f ∈ mMs k n → f.okM := fun f hf => by
  obtain ⟨i, hi, rfl⟩ := List.mem_map.1 hf
  rw [List.mem_range] at hi
  have h1 := mtx_size (k + 2 * i + 1)
  show (mtx (k + 2 * i + 1)).size ≤ _
  omega
theorem fs_of_cells {w : World} {b cap n k : Nat} {g : Nat → Value} (hlen : n ≤ 9223372036854775807) (h : CellsAre w b (n * 3) (partF (mkF k) g (n * 3))) (hk : k + 3 * n ≤ 1099511627776) : FsOwn w (.slice (some ⟨b, 0, none⟩) n cap) (mFs k n) [b] := by
  refine ⟨⟨some ⟨b, 0, none⟩, cap, by simp [mFs], by simpa [mFs] using hlen, Or.inr ⟨b, rfl, rfl, h.1, fun i hi j hj => ?_⟩⟩, mFs_ok hk⟩
  have hi' : i < n := by simpa [mFs] using hi
  rw [h.2 (i * 3 + j) (by omega)]
  unfold partF mkF
  rw [if_pos (by omega)]
  rcases (show j = 0 ∨ j = 1 ∨ j = 2 by omega) with rfl | rfl | rfl
  · rw [if_neg (by omega)]; simp [mFs, Df.cs, Nat.mul_comm]
  · rw [if_neg (by omega)]; simp [mFs, Df.cs, Nat.mul_comm, Nat.add_assoc]
  · rw [if_pos (by omega)]; simp [mFs, Df.cs, Nat.mul_comm, Nat.add_assoc]
theorem ms_of_cells {w : World} {b cap n k : Nat} {g : Nat → Value} (hlen : n ≤ 9223372036854775807) (h : CellsAre w b (n * 2) (partF (mkM k) g (n * 2))) (hk : k + 2 * n ≤ 1099511627776) : MsOwn w (.slice (some ⟨b, 0, none⟩) n cap) (mMs k n) [b] := by
  refine ⟨⟨some ⟨b, 0, none⟩, cap, by simp [mMs], by simpa [mMs] using hlen, Or.inr ⟨b, rfl, rfl, h.1, fun i hi j hj => ?_⟩⟩, mMs_ok hk⟩
  have hi' : i < n := by simpa [mMs] using hi
  rw [h.2 (i * 2 + j) (by omega)]
  unfold partF mkM
  rw [if_pos (by omega)]
  rcases (show j = 0 ∨ j = 1 by omega) with rfl | rfl
  · rw [if_pos (by omega)]; simp [mMs, Dm.cs, Nat.mul_comm]
  · rw [if_neg (by omega)]; simp [mMs, Dm.cs, Nat.mul_comm, Nat.add_assoc]

end Go.Proofs.Ytchbialjgcejgaa

/- The walks of the law's own eqIntS, eqCrewHandS, markIntS, markCrewHandS, heldIntS, heldCrewHandS. The marks count to at most 2^40. -/

namespace Go.Proofs.Ytchbialjgcejgaa
open Go Go.RowKit

set_option maxHeartbeats 400000 in
theorem eqIntZ_any (v u : Value) (ss : List Int) (w : World) {P Q : Nat → Prop} (hv : ZAt P w v ss) (hu : ZAt Q w u ss) (hP : ∀ b, P b → b < w.heap.size) (hQ : ∀ b, Q b → b < w.heap.size) :
    Calls Try.prog 42 #[v, u] w fun e w' => e = .returned (.bool true) ∧ Below w.heap.size w w' := by
  obtain ⟨a, cap, rfl, hlen, hc⟩ := hv.open
  obtain ⟨a2, cap2, rfl, -, hc2⟩ := hu.open
  have HC := hide hc; have HC2 := hide hc2; have HP := hide hP; have HQ := hide hQ
  clear hc hc2 hP hQ hv hu
  have hne : ((ss.length : Int) != (ss.length : Int)) = false := by simp
  go_enter Try.func42, Try.ntmps42
  go_wp2_with fail
  clear hne
  go_loopw [5] (fun i wr => ∃ (k : Nat), k ≤ ss.length ∧ i = .int .i64 k ∧ Below w.heap.size w wr) (fun i _ => ss.length - (intOf i).toNat)
  case atStart => exact ⟨0, Nat.zero_le _, rfl, Below.refl _ _⟩
  case round =>
    obtain ⟨k, hk, rfl, hb⟩ := hrel
    by_cases hlt : k < ss.length
    · obtain ⟨b, o, rfl, hpb, hcell⟩ := unhide HC k hlt
      obtain ⟨b2, o2, rfl, hpb2, hcell2⟩ := unhide HC2 k hlt
      have e1 : wr.cell? ⟨b, o + k, none⟩ = some (.int .i64 ss[k]) := by rw [hb.cell (unhide HP b hpb)]; exact hcell
      have e2 : wr.cell? ⟨b2, o2 + k, none⟩ = some (.int .i64 ss[k]) := by rw [hb.cell (unhide HQ b2 hpb2)]; exact hcell2
      have hne : (ss[k] != ss[k]) = false := by simp
      clear hcell hcell2 hpb hpb2
      go_wp2_with fail
      go_region
      go_wp2_with fail
      go_roundw
      case rel => exact ⟨k + 1, by omega, by go_num, hb.drew⟩
      case measure => simp [intOf]; omega
    · go_wp2_with fail
      go_ret
      exact ⟨rfl, hb⟩
theorem eqCrewHand_any (h : Hd) (w : World) :
    Calls Try.prog 82 #[.agg #[.int .i64 h.state, .int .i64 h.job], .agg #[.int .i64 h.state, .int .i64 h.job]] w fun e w' => e = .returned (.bool true) ∧ Below w.heap.size w w' := by
  have hb0 : ∀ o o2, Below w.heap.size w ((w.alloc o).alloc o2) := fun o o2 => ((Below.refl _ _).alloc (Nat.le_refl _) o).alloc (by simp) o2
  go_enter Try.func82, Try.ntmps82
  go_wp2_with fail
  go_ret
  exact ⟨rfl, hb0 _ _⟩
set_option maxHeartbeats 800000 in
theorem eqCrewHandS_any (v v2 : Value) (fs : List Hd) (w : World) {P Q : Nat → Prop} (hv : HAt P w v fs) (hv2 : HAt Q w v2 fs) (hP : ∀ b, P b → b < w.heap.size) (hQ : ∀ b, Q b → b < w.heap.size) :
    Calls Try.prog 43 #[v, v2] w fun e w' => e = .returned (.bool true) ∧ Below w.heap.size w w' := by
  obtain ⟨a, cap, rfl, hlen, hc⟩ := hv.open
  obtain ⟨a2, cap2, rfl, -, hc2⟩ := hv2.open
  have HC := hide hc; have HC2 := hide hc2; have HP := hide hP; have HQ := hide hQ; clear hc hc2 hP hQ hv hv2
  go_enter Try.func43, Try.ntmps43
  go_wp2_with fail
  go_loopw [5] (fun i wr => ∃ (k : Nat), k ≤ fs.length ∧ i = .int .i64 k ∧ Below w.heap.size w wr) (fun i _ => fs.length - (intOf i).toNat)
  case atStart => exact ⟨0, Nat.zero_le _, rfl, Below.refl _ _⟩
  case round =>
    obtain ⟨k, hk, rfl, hb⟩ := hrel
    by_cases hlt : k < fs.length
    · obtain ⟨b, o, rfl, hpb, hc0, hc1⟩ := unhide HC k hlt
      obtain ⟨b2, o2, rfl, hpb2, hd0, hd1⟩ := unhide HC2 k hlt
      have e0 : wr.cell? ⟨b, o + k * 2, none⟩ = some (.int .i64 fs[k].state) := by rw [hb.cell (unhide HP b hpb)]; exact hc0
      have e1 : wr.cell? ⟨b, o + k * 2 + 1, none⟩ = some (.int .i64 fs[k].job) := by rw [hb.cell (unhide HP b hpb)]; exact hc1
      have g0 : wr.cell? ⟨b2, o2 + k * 2, none⟩ = some (.int .i64 fs[k].state) := by rw [hb.cell (unhide HQ b2 hpb2)]; exact hd0
      have g1 : wr.cell? ⟨b2, o2 + k * 2 + 1, none⟩ = some (.int .i64 fs[k].job) := by rw [hb.cell (unhide HQ b2 hpb2)]; exact hd1
      have HCALL := hide (eqCrewHand_any fs[k] wr.drew)
      clear hc0 hc1 hd0 hd1 hpb hpb2
      generalize fs[k] = f at *
      go_wp2_with fail
      go_region_with (go_at_call 82; refine (unhide HCALL).mono ?_; rintro e w' ⟨rfl, hb'⟩)
      all_goals
        have hb2 := hb.drew.trans (hb'.mono hb.drew.size)
        go_wp2_with fail
        go_roundw
        case rel => exact ⟨k + 1, by omega, by go_num, hb2⟩
        case measure => simp [intOf]; omega
    · go_wp2_with fail
      go_ret
      exact ⟨rfl, hb⟩

/-- What stands in cells that were marked. -/
def mkI (k q : Nat) : Value := .int .i64 ((k + q : Nat) : Int)
def mZs (k n : Nat) : List Int := (List.range n).map fun i => ((k + i : Nat) : Int)
def mHs (k n : Nat) : List Hd := (List.range n).map fun i => ⟨((k + 2 * i : Nat) : Int), ((k + 2 * i + 1 : Nat) : Int)⟩
theorem zs_of_cells {w : World} {b cap n k : Nat} {g : Nat → Value} (hlen : n ≤ 9223372036854775807) (h : CellsAre w b (n * 1) (partF (mkI k) g (n * 1))) : ZOwn w (.slice (some ⟨b, 0, none⟩) n cap) (mZs k n) [b] := by
  refine ⟨some ⟨b, 0, none⟩, cap, by simp [mZs], by simpa [mZs] using hlen, Or.inr ⟨b, rfl, rfl, h.1, fun i hi j hj => ?_⟩⟩
  have hi' : i < n := by simpa [mZs] using hi
  rw [h.2 (i * 1 + j) (by omega)]
  unfold partF mkI
  rw [if_pos (by omega)]
  obtain rfl : j = 0 := by omega
  simp [mZs, zcs]
theorem hs_of_cells {w : World} {b cap n k : Nat} {g : Nat → Value} (hlen : n ≤ 9223372036854775807) (h : CellsAre w b (n * 2) (partF (mkI k) g (n * 2))) : HOwn w (.slice (some ⟨b, 0, none⟩) n cap) (mHs k n) [b] := by
  refine ⟨some ⟨b, 0, none⟩, cap, by simp [mHs], by simpa [mHs] using hlen, Or.inr ⟨b, rfl, rfl, h.1, fun i hi j hj => ?_⟩⟩
  have hi' : i < n := by simpa [mHs] using hi
  rw [h.2 (i * 2 + j) (by omega)]
  unfold partF mkI
  rw [if_pos (by omega)]
  rcases (show j = 0 ∨ j = 1 by omega) with rfl | rfl
  · simp [mHs, Hd.cs, Nat.mul_comm]
  · simp [mHs, Hd.cs, Nat.mul_comm, Nat.add_assoc]

set_option maxHeartbeats 1600000 in
theorem markIntZ_own (v : Value) (fs : List Int) (F : List Nat) (k : Nat) (w : World) (hv : ZOwn w v fs F) (hk : k + fs.length ≤ 1099511627776) :
    Calls Try.prog 44 #[v, .int .i64 k] w fun e w' => e = .returned (.int .i64 (k + fs.length : Nat)) ∧ ZOwn w' v (mZs k fs.length) F ∧ Exc F w w' := by
  obtain ⟨a, cap, rfl, hlen, hc⟩ := hv
  rw [List.length_map] at hlen ⊢
  rcases hc with ⟨hfs, rfl⟩ | ⟨b, rfl, rfl, hfr, hc⟩
  · have hfs' : fs = [] := by simpa using hfs
    subst hfs'
    simp only [List.length_nil] at *
    go_enter Try.func44, Try.ntmps44
    go_wp2_with fail
    go_loopw [1, 5] (fun kk i wr => kk = .int .i64 k ∧ i = .int .i64 0 ∧ wr = w) (fun _ _ _ => 0)
    case atStart => exact ⟨rfl, rfl, rfl⟩
    case round =>
      obtain ⟨rfl, rfl, rfl⟩ := hrel
      go_wp2_with fail
      go_ret
      exact ⟨by simp, ⟨a, cap, by simp [mZs], by simp [mZs], Or.inl ⟨by simp [mZs], rfl⟩⟩, Exc.refl _ _⟩
  · have hM := FlatOwn.cells (n := 1) (rs := fs.map zcs) hc hfr (by omega)
    rw [List.length_map] at hM
    generalize (fun q => ((fs.map zcs).getD (q / 1) []).getD (q % 1) undef) = g at hM
    have hM0 : CellsAre w b (fs.length * 1) (partF (mkI k) g 0) := by
      have : partF (mkI k) g 0 = g := by funext q; simp [partF]
      rw [this]; exact hM
    have HM := hide hM0
    clear hM hM0 hfr hc
    generalize fs.length = n at *
    go_enter Try.func44, Try.ntmps44
    go_wp2_with fail
    go_loopw [1, 5] (fun kk i wr => ∃ (j m : Nat), j ≤ n ∧ m = k + j ∧ kk = .int .i64 (m : Nat) ∧ i = .int .i64 j ∧ Hid (CellsAre wr b (n * 1) (partF (mkI k) g j)) ∧ Hid (Exc [b] w wr)) (fun _ i _ => n - (intOf i).toNat)
    case atStart => exact ⟨0, k, Nat.zero_le _, by omega, rfl, rfl, HM, Exc.refl _ _⟩
    case round =>
      obtain ⟨j, m, hj, hm, rfl, rfl, HC, HX⟩ := hrel
      by_cases hlt : j < n
      · have hmb2 : m + 1 ≤ 1099511627776 := by omega
        have HMM := hide hm
        have f0 : Value.int .i64 (m : Int) = mkI k j := by unfold mkI; rw [hm]
        have y0 := HC.out.2 j (by omega); have z0 := HC.out.1 j
        have HS1 := hide (HC.out.step (by omega) _ f0)
        have HX1 := hide (HX.out.trans (Exc.set wr b j (.int .i64 (m : Int)) (by simp)))
        clear hm f0
        go_wp2_with fail
        go_roundw
        case rel => exact ⟨j + 1, m + 1, by omega, by have := unhide HMM; omega, by go_num, by go_num, HS1, unhide HX1⟩
        case measure => simp [intOf]; omega
      · go_wp2_with fail
        go_ret
        obtain rfl : j = n := by omega
        exact ⟨by rw [hm]; rfl, zs_of_cells hlen (by rw [Nat.mul_one]; rw [Nat.mul_one] at HC; exact HC.out), HX.out⟩
end Go.Proofs.Ytchbialjgcejgaa
