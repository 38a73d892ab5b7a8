/- What is told while it grows: its box and its two lists. Definitions and small laws. No conditions. -/
import Derived.Test.YtchlbncncipecaaWTdLaw2
import Derived.Deep.RegionLaw
import Derived.Deep.AppendLies
import Derived.Deep.CutRange
namespace Go.Proofs.Ytchlbncncipecaa
open Go Go.RowKit

theorem ownsRow_keepT {w w' : World} {base : Nat} {e : TypeId} {size : Nat} {v : Value} {n : Nat} {xs : List Value} (h : w.ownsRow base e size v n xs) (hk : ∀ g, v.ownBlock = some g → w'.heap[g]? = w.heap[g]?) : w'.ownsRow base e size v n xs := by
  refine ⟨h.1, ?_⟩
  rcases h.2 with h0 | ⟨g, cap, cur, hv, hb, hh, hr⟩
  · exact Or.inl h0
  · exact Or.inr ⟨g, cap, cur, hv, hb, by rw [hk g (by rw [hv]; rfl)]; exact hh, hr⟩
structure TdSt (base L : Nat) (W : World) (vI vD : Value) (jobs : Int) (items : List Int) (dead : List Hd) : Prop where
  lt : L < base
  row : W.rowIs L 47 6 (row6 (.bool true) vI vD (.int .i64 jobs) (.int .i64 0) (.int .i64 0))
  oi : W.ownsRow base 3 1 vI items.length (items.map zcs).flatten
  od : W.ownsRow base 111 2 vD dead.length (dead.map Hd.cs).flatten
theorem TdSt.keep {base L : Nat} {W W' : World} {vI vD : Value} {jobs : Int} {items : List Int} {dead : List Hd} (h : TdSt base L W vI vD jobs items dead) (hb : Below W.heap.size W W') : TdSt base L W' vI vD jobs items dead :=
  ⟨h.lt, h.row.of_block (hb.block L h.row.lt), ownsRow_keepT h.oi (fun g e => hb.block g (h.oi.lt g e).2), ownsRow_keepT h.od (fun g e => hb.block g (h.od.lt g e).2)⟩
theorem TdSt.ne {base L : Nat} {W : World} {vI vD : Value} {jobs : Int} {items : List Int} {dead : List Hd} (h : TdSt base L W vI vD jobs items dead) (g : Nat) (h1 : vI.ownBlock = some g) (h2 : vD.ownBlock = some g) : False := by
  rcases h.oi.2 with ⟨hv, _⟩ | ⟨g1, c1, u1, hv1, _, hh1, _⟩
  · rw [hv] at h1; cases h1
  rcases h.od.2 with ⟨hv, _⟩ | ⟨g2, c2, u2, hv2, _, hh2, _⟩
  · rw [hv] at h2; cases h2
  rw [hv1] at h1; rw [hv2] at h2
  simp only [Value.ownBlock, Option.some.injEq] at h1 h2
  subst h1; subst h2
  rw [hh1] at hh2
  simp only [Option.some.injEq, Obj.cells.injEq] at hh2
  exact absurd hh2.2.1 (by decide)
theorem srow_set {W : World} {g t : Nat} {x0 x1 x2 x3 x4 x5 : Value} (h : W.rowIs g t 6 (row6 x0 x1 x2 x3 x4 x5)) (u : Value) : (W.setCell ⟨g, 1, none⟩ u).rowIs g t 6 (row6 x0 u x2 x3 x4 x5) ∧ (W.setCell ⟨g, 2, none⟩ u).rowIs g t 6 (row6 x0 x1 u x3 x4 x5) ∧ (W.setCell ⟨g, 3, none⟩ u).rowIs g t 6 (row6 x0 x1 x2 u x4 x5) := by
  refine ⟨(h.set 1 u).congr (fun i hi => ?_), (h.set 2 u).congr (fun i hi => ?_), (h.set 3 u).congr (fun i hi => ?_)⟩
  all_goals rcases (show i = 0 ∨ i = 1 ∨ i = 2 ∨ i = 3 ∨ i = 4 ∨ i = 5 by omega) with rfl | rfl | rfl | rfl | rfl | rfl <;> rfl
theorem TdSt.addI {base L : Nat} {W W' : World} {vI vD vI' : Value} {jobs : Int} {items : List Int} {dead : List Hd} (h : TdSt base L W vI vD jobs items dead) (zs : List Int) (hown : W'.ownsRow base 3 1 vI' (items.length + zs.length) ((items.map zcs).flatten ++ (zs.map zcs).flatten)) (hg : W.grownBy W' vI.ownBlock) : TdSt base L (W'.setCell ⟨L, 1, none⟩ vI') vI' vD jobs (items ++ zs) dead := by
  have hL := h.row.of_block (hg.block L h.row.lt (fun e => by have := (h.oi.lt L e.symm).1; have := h.lt; omega))
  refine ⟨h.lt, (srow_set hL vI').1, ?_, ?_⟩
  · refine ownsRow_setCell_below ?_ h.lt _
    rw [List.length_append, List.map_append, List.flatten_append]
    exact hown
  · exact ownsRow_setCell_below (ownsRow_keepT h.od (fun g e => hg.block g (h.od.lt g e).2 (fun e2 => h.ne g e2.symm e))) h.lt _
theorem TdSt.addD {base L : Nat} {W W' : World} {vI vD vD' : Value} {jobs : Int} {items : List Int} {dead : List Hd} (h : TdSt base L W vI vD jobs items dead) (f : Hd) (hown : W'.ownsRow base 111 2 vD' (dead.length + 1) ((dead.map Hd.cs).flatten ++ f.cs)) (hg : W.grownBy W' vD.ownBlock) : TdSt base L (W'.setCell ⟨L, 2, none⟩ vD') vI vD' jobs items (dead ++ [f]) := by
  have hL := h.row.of_block (hg.block L h.row.lt (fun e => by have := (h.od.lt L e.symm).1; have := h.lt; omega))
  refine ⟨h.lt, (srow_set hL vD').2.1, ?_, ?_⟩
  · exact ownsRow_setCell_below (ownsRow_keepT h.oi (fun g e => hg.block g (h.oi.lt g e).2 (fun e2 => h.ne g e e2.symm))) h.lt _
  · refine ownsRow_setCell_below ?_ h.lt _
    rw [List.length_append, List.map_append, List.flatten_append]
    simpa using hown
theorem TdSt.setJ {base L : Nat} {W : World} {vI vD : Value} {jobs : Int} {items : List Int} {dead : List Hd} (h : TdSt base L W vI vD jobs items dead) (n : Int) : TdSt base L (W.setCell ⟨L, 3, none⟩ (.int .i64 n)) vI vD n items dead :=
  ⟨h.lt, (srow_set h.row _).2.2, ownsRow_setCell_below h.oi h.lt _, ownsRow_setCell_below h.od h.lt _⟩
/-- What has grown is told in memory of its own. -/
theorem TdSt.end {base L : Nat} {W : World} {vI vD : Value} {jobs : Int} {items : List Int} {dead : List Hd} (h : TdSt base L W vI vD jobs items dead) :
    ∃ F0 F1, ZOwn W vI items F0 ∧ HOwn W vD dead F1 ∧ (F0 ++ F1).Nodup ∧ ∀ b, b ∈ F0 ++ F1 → base ≤ b ∧ b < W.heap.size := by
  obtain ⟨F0, h1, h2, h3, h4⟩ := FlatOwn.of_row (rs := items.map zcs) (n := 1) (by rw [List.length_map]; exact h.oi) (fun r hr => by obtain ⟨f, -, rfl⟩ := List.mem_map.1 hr; rfl)
  obtain ⟨F1, g1, g2, g3, g4⟩ := FlatOwn.of_row (rs := dead.map Hd.cs) (n := 2) (by rw [List.length_map]; exact h.od) (fun r hr => by obtain ⟨f, -, rfl⟩ := List.mem_map.1 hr; rfl)
  refine ⟨F0, F1, h1, g1, List.nodup_append.2 ⟨h4, g4, fun a ha b hb e => by subst e; exact h.ne a (h2 a ha) (g2 a hb)⟩, fun b hb => ?_⟩
  rcases List.mem_append.1 hb with hb | hb
  · exact h3 b hb
  · exact g3 b hb
theorem TdSt.start {W : World} {L base : Nat} {jobs : Int} (hr : W.rowIs L 47 6 (row6 (.bool true) (.slice none 0 0) (.slice none 0 0) (.int .i64 jobs) (.int .i64 0) (.int .i64 0))) (hb : L < base) : TdSt base L W (.slice none 0 0) (.slice none 0 0) jobs [] [] :=
  ⟨hb, hr, ⟨rfl, Or.inl ⟨rfl, rfl⟩⟩, ⟨rfl, Or.inl ⟨rfl, rfl⟩⟩⟩
theorem TdSt.slices {base L : Nat} {W : World} {vI vD : Value} {jobs : Int} {items : List Int} {dead : List Hd} (h : TdSt base L W vI vD jobs items dead) : (∃ a c, vI = .slice a items.length c) ∧ ∃ a c, vD = .slice a dead.length c := by
  constructor
  · rcases h.oi.2 with ⟨hv, h0⟩ | ⟨g, cap, cur, hv, _⟩
    · exact ⟨none, 0, by rw [hv, h0]⟩
    · exact ⟨_, cap, hv⟩
  · rcases h.od.2 with ⟨hv, h0⟩ | ⟨g, cap, cur, hv, _⟩
    · exact ⟨none, 0, by rw [hv, h0]⟩
    · exact ⟨_, cap, hv⟩
theorem cell_twoT (w : World) (x y : Value) (t : TypeId) : ∀ j u, [x, y][j]? = some u → (w.alloc (.cells #[x, y] t)).cell? ((⟨w.heap.size, 0, none⟩ : Addr).add j) = some u := by
  intro j u hj
  match j with
  | 0 => simp only [List.getElem?_cons_zero, Option.some.injEq] at hj; subst hj; rw [Addr.add_lit]; simp [go_sem]
  | 1 => simp only [List.getElem?_cons_succ, List.getElem?_cons_zero, Option.some.injEq] at hj; subst hj; rw [Addr.add_lit]; simp [go_sem]
  | j + 2 => simp at hj
theorem infoDeadM : (Try.prog.info? 111).map (fun i => (i.zero, i.size, i.bytes)) = some (some (.agg #[.int .i64 0, .int .i64 0]), 2, 16) := by kernel_rfl
theorem zs_news {P : Nat → Prop} {w : World} {a : Option Addr} {n c : Nat} {zs : List Int} (h : ZsAt P w (.slice a n c) zs) (hp : 0 < zs.length) : ∃ b o, a = some ⟨b, o, none⟩ ∧ n = zs.length ∧ P b ∧ ∀ j u, (zs.map zcs).flatten[j]? = some u → w.cell? ((⟨b, o, none⟩ : Addr).add j) = some u := by
  obtain ⟨a', c', e, -, hc⟩ := h
  simp only [Value.slice.injEq] at e
  obtain ⟨rfl, rfl, rfl⟩ := e
  obtain ⟨b, o, rfl, hb, -⟩ := hc 0 hp
  refine ⟨b, o, rfl, rfl, hb, fun j u hj => ?_⟩
  have hfl : (zs.map zcs).flatten = zs.map (fun z => Value.int .i64 z) := by
    clear hc hp hj
    induction zs with
    | nil => rfl
    | cons z r ih => rw [List.map_cons, List.flatten_cons, ih]; rfl
  rw [hfl] at hj
  have hjl : j < zs.length := by have := (List.getElem?_eq_some_iff.1 hj).1; simpa using this
  obtain ⟨b', o', e, -, hcell, -⟩ := hc j hjl
  simp only [Option.some.injEq, Addr.mk.injEq, and_true] at e
  obtain ⟨rfl, rfl⟩ := e
  rw [Addr.add_lit, hcell]
  simp [hjl] at hj
  rw [← hj]
theorem zflat_len (zs : List Int) : (zs.map zcs).flatten.length = zs.length := by
  induction zs with
  | nil => rfl
  | cons z r ih => rw [List.map_cons, List.flatten_cons, List.length_append, ih]; simp [zcs]; omega
theorem zflat_one (zs : List Int) : ∀ u, u ∈ (zs.map zcs).flatten → u.oneCell' = true := fun u hu => by
  obtain ⟨l, hl, hu⟩ := List.mem_flatten.1 hu
  obtain ⟨z, -, rfl⟩ := List.mem_map.1 hl
  simp [zcs] at hu; subst hu; rfl
theorem grown_drew {w w' : World} {b : Option Nat} (h : w.drew.grownBy w' b) : w.grownBy w' b := ⟨h.os, h.tape, h.output, h.size, h.block⟩
theorem TdSt.drew {base L : Nat} {W : World} {vI vD : Value} {jobs : Int} {items : List Int} {dead : List Hd} (h : TdSt base L W vI vD jobs items dead) : TdSt base L W.drew vI vD jobs items dead := h.keep (Below.refl _ _).drew
/-- The six cells of an answer that is stored into its box. -/
theorem six_below {w0 w : World} {n : Nat} (h : Below n w0 w) {B : Nat} (hB : n ≤ B) (a b c d e f : Value) : Below n w0 ((((((w.setCell ⟨B, 0, none⟩ a).setCell ⟨B, 1, none⟩ b).setCell ⟨B, 2, none⟩ c).setCell ⟨B, 3, none⟩ d).setCell ⟨B, 4, none⟩ e).setCell ⟨B, 5, none⟩ f) :=
  (((((h.setCell hB _).setCell hB _).setCell hB _).setCell hB _).setCell hB _).setCell hB _
theorem six_heap (w : World) (B : Nat) (a b c d e f : Value) (k : Nat) (h : k ≠ B) : ((((((w.setCell ⟨B, 0, none⟩ a).setCell ⟨B, 1, none⟩ b).setCell ⟨B, 2, none⟩ c).setCell ⟨B, 3, none⟩ d).setCell ⟨B, 4, none⟩ e).setCell ⟨B, 5, none⟩ f).heap[k]? = w.heap[k]? := by
  repeat rw [Below.heap_setCell _ _ _ _ h]
theorem TdSt.sameI {base L : Nat} {W : World} {vI vD : Value} {jobs : Int} {items : List Int} {dead : List Hd} (h : TdSt base L W vI vD jobs items dead) : TdSt base L (W.setCell ⟨L, 1, none⟩ vI) vI vD jobs items dead :=
  ⟨h.lt, (srow_set h.row _).1, ownsRow_setCell_below h.oi h.lt _, ownsRow_setCell_below h.od h.lt _⟩
theorem own_capT {w : World} {base : Nat} {e : TypeId} {size : Nat} {a : Option Addr} {n m cap : Nat} {xs : List Value} (h : w.ownsRow base e size (.slice a n cap) m xs) : n ≤ cap := by
  rcases h.2 with ⟨hv, h0⟩ | ⟨g, c, u, hv, _, _, hle, _⟩
  · simp only [Value.slice.injEq] at hv; omega
  · simp only [Value.slice.injEq] at hv; omega
end Go.Proofs.Ytchlbncncipecaa
