/- What is told while it grows: its box and its two lists. Definitions and small laws. No conditions. -/
import Derived.Test.YtchbialjgcejgaaPart06
import Derived.Deep.RegionLaw
import Derived.Deep.AppendLies
import Derived.Deep.CutRange
import Derived.Test.YtchbialjgcejgaaPart05
import Derived.Handy
namespace Go.Proofs.Ytchbialjgcejgaa
open Go Go.RowKit

theorem ownsRow_keepT {w w' : World} {base : Nat} {e : TypeId} {size : Nat} {v : Value} {n : Nat} {xs : List Value} (h : w.ownsRow base e size v n xs) (hk : ∀ g, v.ownBlock = some g → w'.heap[g]? = w.heap[g]?) : w'.ownsRow base e size v n xs := by
  refine ⟨h.1, ?_⟩
  rcases h.2 with h0 | ⟨g, cap, cur, hv, hb, hh, hr⟩
  · exact Or.inl h0
  · exact Or.inr ⟨g, cap, cur, hv, hb, by rw [hk g (by rw [hv]; rfl)]; exact hh, hr⟩
structure TdSt (base L : Nat) (W : World) (vI vD : Value) (jobs : Int) (items : List Int) (dead : List Hd) : Prop where
  lt : L < base
  row : W.rowIs L 47 6 (row6 (.bool true) vI vD (.int .i64 jobs) (.int .i64 0) (.int .i64 0))
  oi : W.ownsRow base 3 1 vI items.length (items.map zcs).flatten
  od : W.ownsRow base 111 2 vD dead.length (dead.map Hd.cs).flatten
theorem TdSt.keep {base L : Nat} {W W' : World} {vI vD : Value} {jobs : Int} {items : List Int} {dead : List Hd} (h : TdSt base L W vI vD jobs items dead) (hb : Below W.heap.size W W') : TdSt base L W' vI vD jobs items dead :=
  ⟨h.lt, h.row.of_block (hb.block L h.row.lt), ownsRow_keepT h.oi (fun g e => hb.block g (h.oi.lt g e).2), ownsRow_keepT h.od (fun g e => hb.block g (h.od.lt g e).2)⟩
theorem TdSt.ne {base L : Nat} {W : World} {vI vD : Value} {jobs : Int} {items : List Int} {dead : List Hd} (h : TdSt base L W vI vD jobs items dead) (g : Nat) (h1 : vI.ownBlock = some g) (h2 : vD.ownBlock = some g) : False := by
  rcases h.oi.2 with ⟨hv, _⟩ | ⟨g1, c1, u1, hv1, _, hh1, _⟩
  · rw [hv] at h1; cases h1
  rcases h.od.2 with ⟨hv, _⟩ | ⟨g2, c2, u2, hv2, _, hh2, _⟩
  · rw [hv] at h2; cases h2
  rw [hv1] at h1; rw [hv2] at h2
  simp only [Value.ownBlock, Option.some.injEq] at h1 h2
  subst h1; subst h2
  rw [hh1] at hh2
  simp only [Option.some.injEq, Obj.cells.injEq] at hh2
  exact absurd hh2.2.1 (by decide)
theorem srow_set {W : World} {g t : Nat} {x0 x1 x2 x3 x4 x5 : Value} (h : W.rowIs g t 6 (row6 x0 x1 x2 x3 x4 x5)) (u : Value) : (W.setCell ⟨g, 1, none⟩ u).rowIs g t 6 (row6 x0 u x2 x3 x4 x5) ∧ (W.setCell ⟨g, 2, none⟩ u).rowIs g t 6 (row6 x0 x1 u x3 x4 x5) ∧ (W.setCell ⟨g, 3, none⟩ u).rowIs g t 6 (row6 x0 x1 x2 u x4 x5) := by
  refine ⟨(h.set 1 u).congr (fun i hi => ?_), (h.set 2 u).congr (fun i hi => ?_), (h.set 3 u).congr (fun i hi => ?_)⟩
  all_goals rcases (show i = 0 ∨ i = 1 ∨ i = 2 ∨ i = 3 ∨ i = 4 ∨ i = 5 by omega) with rfl | rfl | rfl | rfl | rfl | rfl <;> rfl
theorem TdSt.addI {base L : Nat} {W W' : World} {vI vD vI' : Value} {jobs : Int} {items : List Int} {dead : List Hd} (h : TdSt base L W vI vD jobs items dead) (zs : List Int) (hown : W'.ownsRow base 3 1 vI' (items.length + zs.length) ((items.map zcs).flatten ++ (zs.map zcs).flatten)) (hg : W.grownBy W' vI.ownBlock) : TdSt base L (W'.setCell ⟨L, 1, none⟩ vI') vI' vD jobs (items ++ zs) dead := by
  have hL := h.row.of_block (hg.block L h.row.lt (fun e => by have := (h.oi.lt L e.symm).1; have := h.lt; omega))
  refine ⟨h.lt, (srow_set hL vI').1, ?_, ?_⟩
  · refine ownsRow_setCell_below ?_ h.lt _
    rw [List.length_append, List.map_append, List.flatten_append]
    exact hown
  · exact ownsRow_setCell_below (ownsRow_keepT h.od (fun g e => hg.block g (h.od.lt g e).2 (fun e2 => h.ne g e2.symm e))) h.lt _
theorem TdSt.addD {base L : Nat} {W W' : World} {vI vD vD' : Value} {jobs : Int} {items : List Int} {dead : List Hd} (h : TdSt base L W vI vD jobs items dead) (f : Hd) (hown : W'.ownsRow base 111 2 vD' (dead.length + 1) ((dead.map Hd.cs).flatten ++ f.cs)) (hg : W.grownBy W' vD.ownBlock) : TdSt base L (W'.setCell ⟨L, 2, none⟩ vD') vI vD' jobs items (dead ++ [f]) := by
  have hL := h.row.of_block (hg.block L h.row.lt (fun e => by have := (h.od.lt L e.symm).1; have := h.lt; omega))
  refine ⟨h.lt, (srow_set hL vD').2.1, ?_, ?_⟩
  · exact ownsRow_setCell_below (ownsRow_keepT h.oi (fun g e => hg.block g (h.oi.lt g e).2 (fun e2 => h.ne g e e2.symm))) h.lt _
  · refine ownsRow_setCell_below ?_ h.lt _
    rw [List.length_append, List.map_append, List.flatten_append]
    simpa using hown
theorem TdSt.setJ {base L : Nat} {W : World} {vI vD : Value} {jobs : Int} {items : List Int} {dead : List Hd} (h : TdSt base L W vI vD jobs items dead) (n : Int) : TdSt base L (W.setCell ⟨L, 3, none⟩ (.int .i64 n)) vI vD n items dead :=
  ⟨h.lt, (srow_set h.row _).2.2, ownsRow_setCell_below h.oi h.lt _, ownsRow_setCell_below h.od h.lt _⟩
/-- What has grown is told in memory of its own. -/
theorem TdSt.end {base L : Nat} {W : World} {vI vD : Value} {jobs : Int} {items : List Int} {dead : List Hd} (h : TdSt base L W vI vD jobs items dead) :
    ∃ F0 F1, ZOwn W vI items F0 ∧ HOwn W vD dead F1 ∧ (F0 ++ F1).Nodup ∧ ∀ b, b ∈ F0 ++ F1 → base ≤ b ∧ b < W.heap.size := by
  obtain ⟨F0, h1, h2, h3, h4⟩ := FlatOwn.of_row (rs := items.map zcs) (n := 1) (by rw [List.length_map]; exact h.oi) (fun r hr => by obtain ⟨f, -, rfl⟩ := List.mem_map.1 hr; rfl)
  obtain ⟨F1, g1, g2, g3, g4⟩ := FlatOwn.of_row (rs := dead.map Hd.cs) (n := 2) (by rw [List.length_map]; exact h.od) (fun r hr => by obtain ⟨f, -, rfl⟩ := List.mem_map.1 hr; rfl)
  refine ⟨F0, F1, h1, g1, List.nodup_append.2 ⟨h4, g4, fun a ha b hb e => by subst e; exact h.ne a (h2 a ha) (g2 a hb)⟩, fun b hb => ?_⟩
  rcases List.mem_append.1 hb with hb | hb
  · exact h3 b hb
  · exact g3 b hb
theorem TdSt.start {W : World} {L base : Nat} {jobs : Int} (hr : W.rowIs L 47 6 (row6 (.bool true) (.slice none 0 0) (.slice none 0 0) (.int .i64 jobs) (.int .i64 0) (.int .i64 0))) (hb : L < base) : TdSt base L W (.slice none 0 0) (.slice none 0 0) jobs [] [] :=
  ⟨hb, hr, ⟨rfl, Or.inl ⟨rfl, rfl⟩⟩, ⟨rfl, Or.inl ⟨rfl, rfl⟩⟩⟩
theorem TdSt.slices {base L : Nat} {W : World} {vI vD : Value} {jobs : Int} {items : List Int} {dead : List Hd} (h : TdSt base L W vI vD jobs items dead) : (∃ a c, vI = .slice a items.length c) ∧ ∃ a c, vD = .slice a dead.length c := by
  constructor
  · rcases h.oi.2 with ⟨hv, h0⟩ | ⟨g, cap, cur, hv, _⟩
    · exact ⟨none, 0, by rw [hv, h0]⟩
    · exact ⟨_, cap, hv⟩
  · rcases h.od.2 with ⟨hv, h0⟩ | ⟨g, cap, cur, hv, _⟩
    · exact ⟨none, 0, by rw [hv, h0]⟩
    · exact ⟨_, cap, hv⟩
theorem cell_twoT (w : World) (x y : Value) (t : TypeId) : ∀ j u, [x, y][j]? = some u → (w.alloc (.cells #[x, y] t)).cell? ((⟨w.heap.size, 0, none⟩ : Addr).add j) = some u := by
  intro j u hj
  match j with
  | 0 => simp only [List.getElem?_cons_zero, Option.some.injEq] at hj; subst hj; rw [Addr.add_lit]; simp [go_sem]
  | 1 => simp only [List.getElem?_cons_succ, List.getElem?_cons_zero, Option.some.injEq] at hj; subst hj; rw [Addr.add_lit]; simp [go_sem]
  | j + 2 => simp at hj
theorem infoDeadM : (Try.prog.info? 111).map (fun i => (i.zero, i.size, i.bytes)) = some (some (.agg #[.int .i64 0, .int .i64 0]), 2, 16) := by kernel_rfl
theorem zs_news {P : Nat → Prop} {w : World} {a : Option Addr} {n c : Nat} {zs : List Int} (h : ZsAt P w (.slice a n c) zs) (hp : 0 < zs.length) : ∃ b o, a = some ⟨b, o, none⟩ ∧ n = zs.length ∧ P b ∧ ∀ j u, (zs.map zcs).flatten[j]? = some u → w.cell? ((⟨b, o, none⟩ : Addr).add j) = some u := by
  obtain ⟨a', c', e, -, hc⟩ := h
  simp only [Value.slice.injEq] at e
  obtain ⟨rfl, rfl, rfl⟩ := e
  obtain ⟨b, o, rfl, hb, -⟩ := hc 0 hp
  refine ⟨b, o, rfl, rfl, hb, fun j u hj => ?_⟩
  have hfl : (zs.map zcs).flatten = zs.map (fun z => Value.int .i64 z) := by
    clear hc hp hj
    induction zs with
    | nil => rfl
    | cons z r ih => rw [List.map_cons, List.flatten_cons, ih]; rfl
  rw [hfl] at hj
  have hjl : j < zs.length := by have := (List.getElem?_eq_some_iff.1 hj).1; simpa using this
  obtain ⟨b', o', e, -, hcell, -⟩ := hc j hjl
  simp only [Option.some.injEq, Addr.mk.injEq, and_true] at e
  obtain ⟨rfl, rfl⟩ := e
  rw [Addr.add_lit, hcell]
  simp [hjl] at hj
  rw [← hj]
theorem zflat_len (zs : List Int) : (zs.map zcs).flatten.length = zs.length := by
  induction zs with
  | nil => rfl
  | cons z r ih => rw [List.map_cons, List.flatten_cons, List.length_append, ih]; simp [zcs]; omega
theorem zflat_one (zs : List Int) : ∀ u, u ∈ (zs.map zcs).flatten → u.oneCell' = true := fun u hu => by
  obtain ⟨l, hl, hu⟩ := List.mem_flatten.1 hu
  obtain ⟨z, -, rfl⟩ := List.mem_map.1 hl
  simp [zcs] at hu; subst hu; rfl
theorem grown_drew {w w' : World} {b : Option Nat} (h : w.drew.grownBy w' b) : w.grownBy w' b := ⟨h.os, h.tape, h.output, h.size, h.block⟩
theorem TdSt.drew {base L : Nat} {W : World} {vI vD : Value} {jobs : Int} {items : List Int} {dead : List Hd} (h : TdSt base L W vI vD jobs items dead) : TdSt base L W.drew vI vD jobs items dead := h.keep (Below.refl _ _).drew
/-- The six cells of an answer that is stored into its box. -/
theorem six_below {w0 w : World} {n : Nat} (h : Below n w0 w) {B : Nat} (hB : n ≤ B) (a b c d e f : Value) : Below n w0 ((((((w.setCell ⟨B, 0, none⟩ a).setCell ⟨B, 1, none⟩ b).setCell ⟨B, 2, none⟩ c).setCell ⟨B, 3, none⟩ d).setCell ⟨B, 4, none⟩ e).setCell ⟨B, 5, none⟩ f) :=
  (((((h.setCell hB _).setCell hB _).setCell hB _).setCell hB _).setCell hB _).setCell hB _
theorem six_heap (w : World) (B : Nat) (a b c d e f : Value) (k : Nat) (h : k ≠ B) : ((((((w.setCell ⟨B, 0, none⟩ a).setCell ⟨B, 1, none⟩ b).setCell ⟨B, 2, none⟩ c).setCell ⟨B, 3, none⟩ d).setCell ⟨B, 4, none⟩ e).setCell ⟨B, 5, none⟩ f).heap[k]? = w.heap[k]? := by
  repeat rw [Below.heap_setCell _ _ _ _ h]
theorem TdSt.sameI {base L : Nat} {W : World} {vI vD : Value} {jobs : Int} {items : List Int} {dead : List Hd} (h : TdSt base L W vI vD jobs items dead) : TdSt base L (W.setCell ⟨L, 1, none⟩ vI) vI vD jobs items dead :=
  ⟨h.lt, (srow_set h.row _).1, ownsRow_setCell_below h.oi h.lt _, ownsRow_setCell_below h.od h.lt _⟩
theorem own_capT {w : World} {base : Nat} {e : TypeId} {size : Nat} {a : Option Addr} {n m cap : Nat} {xs : List Value} (h : w.ownsRow base e size (.slice a n cap) m xs) : n ≤ cap := by
  rcases h.2 with ⟨hv, h0⟩ | ⟨g, c, u, hv, _, _, hle, _⟩
  · simp only [Value.slice.injEq] at hv; omega
  · simp only [Value.slice.injEq] at hv; omega
end Go.Proofs.Ytchbialjgcejgaa

/- The walk of the specification's CrewStart, where a crew may begin. No conditions. -/

namespace Go.Proofs.Ytchbialjgcejgaa
open Go Go.RowKit

theorem row_put {W : World} {L : Nat} {T : TypeId} {m : Nat} {l : List Value} (h : W.rowIs L T m (r18 l)) (i : Nat) (hi : i < l.length) (u : Value) : (W.setCell ⟨L, i, none⟩ u).rowIs L T m (r18 (l.set i u)) := (h.set i u).congr fun x _ => by
  show (if x = i then u else l.getD x undef) = (l.set i u).getD x undef
  by_cases e : x = i
  · subst e
    rw [if_pos rfl]
    simp [List.getD, hi]
  · rw [if_neg e]
    simp [List.getD, Ne.symm e]
structure SwSt (base L S : Nat) (W : World) (j k n : Int) (vH vG : Value) (hs : List Hd) (gs : List Int) : Prop where
  lt : L < base
  ltS : S < L
  row : W.rowIs L 28 18 (r18 [.int .i64 j, .int .i64 k, .int .i64 n, .int .i64 0, .int .i64 0, .slice none 0 0, vH, .int .i64 0, .slice none 0 0, .int .i64 0, vG, .int .i64 0, .slice none 0 0, .int .i64 0, .slice none 0 0, .int .i64 n, .slice (some ⟨S, 0, none⟩) 4 4, .int .i64 0])
  shut : W.rowIs S 3 4 (fun _ => .int .i64 0)
  oh : W.ownsRow base 60 2 vH hs.length (hs.map Hd.cs).flatten
  og : W.ownsRow base 3 1 vG gs.length (gs.map zcs).flatten
theorem SwSt.keep {base L S : Nat} {W W' : World} {j k n : Int} {vH vG : Value} {hs : List Hd} {gs : List Int} (h : SwSt base L S W j k n vH vG hs gs) (hb : Below W.heap.size W W') : SwSt base L S W' j k n vH vG hs gs :=
  ⟨h.lt, h.ltS, h.row.of_block (hb.block L h.row.lt), h.shut.of_block (hb.block S h.shut.lt), ownsRow_keepT h.oh (fun g e => hb.block g (h.oh.lt g e).2), ownsRow_keepT h.og (fun g e => hb.block g (h.og.lt g e).2)⟩
theorem SwSt.ne {base L S : Nat} {W : World} {j k n : Int} {vH vG : Value} {hs : List Hd} {gs : List Int} (h : SwSt base L S W j k n vH vG hs gs) (g : Nat) (h1 : vH.ownBlock = some g) (h2 : vG.ownBlock = some g) : False := by
  rcases h.oh.2 with ⟨hv, _⟩ | ⟨g1, c1, u1, hv1, _, hh1, _⟩
  · rw [hv] at h1; cases h1
  rcases h.og.2 with ⟨hv, _⟩ | ⟨g2, c2, u2, hv2, _, hh2, _⟩
  · rw [hv] at h2; cases h2
  rw [hv1] at h1; rw [hv2] at h2
  simp only [Value.ownBlock, Option.some.injEq] at h1 h2
  subst h1; subst h2
  rw [hh1] at hh2
  simp only [Option.some.injEq, Obj.cells.injEq] at hh2
  exact absurd hh2.2.1 (by decide)
theorem SwSt.addH {base L S : Nat} {W W' : World} {j k n : Int} {vH vG vH' : Value} {hs : List Hd} {gs : List Int} (h : SwSt base L S W j k n vH vG hs gs) (f : Hd) (hown : W'.ownsRow base 60 2 vH' (hs.length + 1) ((hs.map Hd.cs).flatten ++ f.cs)) (hg : W.grownBy W' vH.ownBlock) : SwSt base L S (W'.setCell ⟨L, 6, none⟩ vH') j k n vH' vG (hs ++ [f]) gs := by
  have hno : ∀ x, x < base → some x ≠ vH.ownBlock := fun x hx e => by have := (h.oh.lt x e.symm).1; omega
  have hlS : S < base := by have := h.lt; have := h.ltS; omega
  have hL := h.row.of_block (hg.block L h.row.lt (hno L h.lt))
  have hS := h.shut.of_block (hg.block S h.shut.lt (hno S hlS))
  refine ⟨h.lt, h.ltS, row_put hL 6 (by simp) vH', hS.setOther (a := ⟨L, 6, none⟩) (Nat.ne_of_lt h.ltS) vH', ?_, ?_⟩
  · refine ownsRow_setCell_below ?_ h.lt _
    rw [List.length_append, List.map_append, List.flatten_append]
    simpa using hown
  · exact ownsRow_setCell_below (ownsRow_keepT h.og (fun g e => hg.block g (h.og.lt g e).2 (fun e2 => h.ne g e2.symm e))) h.lt _
theorem SwSt.addG {base L S : Nat} {W W' : World} {j k n : Int} {vH vG vG' : Value} {hs : List Hd} {gs : List Int} (h : SwSt base L S W j k n vH vG hs gs) (z : Int) (hown : W'.ownsRow base 3 1 vG' (gs.length + 1) ((gs.map zcs).flatten ++ zcs z)) (hg : W.grownBy W' vG.ownBlock) : SwSt base L S (W'.setCell ⟨L, 10, none⟩ vG') j k n vH vG' hs (gs ++ [z]) := by
  have hno : ∀ x, x < base → some x ≠ vG.ownBlock := fun x hx e => by have := (h.og.lt x e.symm).1; omega
  have hlS : S < base := by have := h.lt; have := h.ltS; omega
  have hL := h.row.of_block (hg.block L h.row.lt (hno L h.lt))
  have hS := h.shut.of_block (hg.block S h.shut.lt (hno S hlS))
  refine ⟨h.lt, h.ltS, row_put hL 10 (by simp) vG', hS.setOther (a := ⟨L, 10, none⟩) (Nat.ne_of_lt h.ltS) vG', ?_, ?_⟩
  · exact ownsRow_setCell_below (ownsRow_keepT h.oh (fun g e => hg.block g (h.oh.lt g e).2 (fun e2 => h.ne g e e2.symm))) h.lt _
  · refine ownsRow_setCell_below ?_ h.lt _
    rw [List.length_append, List.map_append, List.flatten_append]
    simpa using hown
theorem range_row {W : World} {b : Nat} {T : TypeId} {m : Nat} (cs : List Value) (hl : cs.length = m) (h : W.rowIs b T m (r18 cs)) : W.rangeAt b 0 cs := fun i v hv => by
  have hi := (List.getElem?_eq_some_iff.1 hv).1
  rw [Nat.zero_add, h.cell (by omega)]
  show some (cs.getD i undef) = some v
  simp [List.getD, hv]
theorem infoHandM : (Try.prog.info? 60).map (fun i => (i.zero, i.size, i.bytes)) = some (some (.agg #[.int .i64 0, .int .i64 0]), 2, 16) := by kernel_rfl
theorem rowWorld : ∃ d, Try.prog.underlying 28 = some d ∧ d.isRow = true := ⟨_, Try.underlying28, by rfl⟩
theorem SwSt.end {base L S : Nat} {W W' : World} {j k n : Int} {vH vG : Value} {hs : List Hd} {gs : List Int} (h : SwSt base L S W j k n vH vG hs gs) (hW : ∀ b, S ≤ b → b < W.heap.size → W'.heap[b]? = W.heap[b]?) (hsz : W.heap.size ≤ W'.heap.size) :
    ∃ Fh Fg, CwOwn W' ⟨j, k, n, 0, 0, [], hs, 0, [], 0, gs, 0, [], 0, [], n, [0, 0, 0, 0], 0⟩ ⟨.slice none 0 0, vH, .slice none 0 0, vG, .slice none 0 0, .slice none 0 0, .slice (some ⟨S, 0, none⟩) 4 4⟩ [] Fh [] Fg [] [] [S] ∧ Dj7 [] Fh [] Fg [] [] [S] ∧ ∀ b, b ∈ F7 [] Fh [] Fg [] [] [S] → S ≤ b ∧ b < W'.heap.size := by
  obtain ⟨F0, h1, h2, h3, h4⟩ := FlatOwn.of_row (rs := hs.map Hd.cs) (n := 2) (by rw [List.length_map]; exact h.oh) (fun r hr => by obtain ⟨f, -, rfl⟩ := List.mem_map.1 hr; rfl)
  obtain ⟨F1, g1, g2, g3, g4⟩ := FlatOwn.of_row (rs := gs.map zcs) (n := 1) (by rw [List.length_map]; exact h.og) (fun r hr => by obtain ⟨f, -, rfl⟩ := List.mem_map.1 hr; rfl)
  have hlt := h.lt; have hls := h.ltS
  have hsh := h.shut.of_block (hW S (Nat.le_refl _) h.shut.lt)
  refine ⟨F0, F1, ⟨FlatOwn.nil _ 1, FlatOwn.carry h1 (fun b hb => hW b (by have := (h3 b hb).1; omega) (h3 b hb).2), FlatOwn.nil _ 1, FlatOwn.carry g1 (fun b hb => hW b (by have := (g3 b hb).1; omega) (g3 b hb).2), FlatOwn.nil _ 1, FlatOwn.nil _ 1, ?_⟩, ⟨fun b hb => (by cases hb), fun b hb hm => ?_, fun b hb => (by cases hb), fun b hb hm => ?_, fun b hb => (by cases hb), fun b hb => (by cases hb)⟩, fun b hb => ?_⟩
  · refine ⟨some ⟨S, 0, none⟩, 4, rfl, by simp, Or.inr ⟨S, rfl, rfl, fun o => hsh.frozen o, fun i hi x hx => ?_⟩⟩
    obtain rfl : x = 0 := by omega
    have hi' : i < 4 := hi
    rw [Nat.mul_one, Nat.add_zero, hsh.cell hi']
    rcases (show i = 0 ∨ i = 1 ∨ i = 2 ∨ i = 3 by omega) with rfl | rfl | rfl | rfl <;> rfl
  · simp only [List.nil_append, List.mem_append, List.mem_singleton] at hm
    rcases hm with hm | rfl
    · exact h.ne b (h2 b hb) (g2 b hm)
    · have := (h3 _ hb).1; omega
  · simp only [List.nil_append, List.mem_singleton] at hm
    subst hm
    have := (g3 _ hb).1; omega
  · simp only [F7, List.nil_append, List.mem_append, List.mem_singleton] at hb
    rcases hb with hb | hb | rfl
    · have := h3 b hb; omega
    · have := g3 b hb; omega
    · exact ⟨Nat.le_refl _, hsh.lt⟩
theorem heap_setCells {b : Nat} : ∀ (vs : List Value) (o : Nat) (W : World) (x : Nat), x ≠ b → (W.setCells b o vs).heap[x]? = W.heap[x]?
  | [], _, _, _, _ => rfl
  | _ :: r, o, _, x, h => (heap_setCells r (o + 1) _ x h).trans (Below.heap_setCell _ _ _ _ h)
theorem size_setCells {b : Nat} : ∀ (vs : List Value) (o : Nat) (W : World), (W.setCells b o vs).heap.size = W.heap.size
  | [], _, _ => rfl
  | _ :: r, o, _ => (size_setCells r (o + 1) _).trans (size_setCell _ _ _)
set_option maxRecDepth 100000 in
set_option maxHeartbeats 3200000 in
theorem specCrewStart_yes (j : Int) (k n : Nat) (w : World) (hok : stOk j k n) : Calls Try.prog 10 #[.int .i64 j, .int .i64 k, .int .i64 n] w fun e w' => CwEnd w w' e (stCw j k n) (decide (stOk j k n)) := by
  have HIN := hide (fun z lo hi W => frInS z lo hi W)
  have HB0 := hide (fun o => (show Below w.heap.size w (w.alloc o) from (Below.refl _ _).alloc (Nat.le_refl _) o))
  have HR6 := hide (show (w.alloc (.cells #[.int .i64 0, .int .i64 0, .int .i64 0, .int .i64 0, .int .i64 0, .slice none 0 0, .slice none 0 0, .int .i64 0, .slice none 0 0, .int .i64 0, .slice none 0 0, .int .i64 0, .slice none 0 0, .int .i64 0, .slice none 0 0, .int .i64 0, .slice none 0 0, .int .i64 0] 28)).rowIs w.heap.size 28 18 (r18 [.int .i64 0, .int .i64 0, .int .i64 0, .int .i64 0, .int .i64 0, .slice none 0 0, .slice none 0 0, .int .i64 0, .slice none 0 0, .int .i64 0, .slice none 0 0, .int .i64 0, .slice none 0 0, .int .i64 0, .slice none 0 0, .int .i64 0, .slice none 0 0, .int .i64 0]) from box18 w noCw nil7 28)
  have HE := hide (show decide (stOk j k n) = true from decide_eq_true hok)
  have H1 := hide hok.1; have H2 := hide hok.2.1; have H3 := hide hok.2.2; have HOK := hide hok
  clear hok
  go_enter Try.func10, Try.ntmps10
  go_wp2_with fail
  refine (unhide HIN _ _ _ _).mono ?_
  rintro e w1 ⟨rfl, hb1⟩
  have R1 := hide ((unhide HR6).of_block (hb1.block w.heap.size (by simp)))
  have B1 := hide ((unhide HB0 _).trans (hb1.mono (unhide HB0 _).size))
  clear hb1 HR6 HB0
  rw [decide_eq_true (unhide H1)]
  go_wp2_with fail
  refine (unhide HIN _ _ _ _).mono ?_
  rintro e w2 ⟨rfl, hb2⟩
  have R2 := hide ((unhide R1).of_block (hb2.block _ (unhide R1).lt))
  have B2 := hide ((unhide B1).trans (hb2.mono (unhide B1).size))
  clear hb2 R1 B1
  rw [decide_eq_true (unhide H2)]
  go_wp2_with fail
  refine (unhide HIN _ _ _ _).mono ?_
  rintro e w3 ⟨rfl, hb3⟩
  have R3 := hide ((unhide R2).of_block (hb3.block _ (unhide R2).lt))
  have B3 := hide ((unhide B2).trans (hb3.mono (unhide B2).size))
  clear hb3 R2 B2
  rw [decide_eq_true (unhide H3)]
  go_upto_region 3 with fail
  refine wp_region_list ?_
  refine wpList_plain rfl (fun K hK => ?_); go_simp; refine hK _ _ ?_; clear hK K
  refine wpList_plain rfl (fun K hK => ?_); go_simp; refine hK _ _ ?_; clear hK K
  refine wpList_plain rfl (fun K hK => ?_); go_simp; refine hK _ _ ?_; clear hK K
  refine wpList_plain rfl (fun K hK => ?_); go_simp; refine hK _ _ ?_; clear hK K
  refine wpList_plain rfl (fun K hK => ?_); go_simp; refine hK _ _ ?_; clear hK K
  refine wpList_plain rfl (fun K hK => ?_); go_simp; refine hK _ _ ?_; clear hK K
  refine wpList_plain rfl (fun K hK => ?_); go_simp; refine hK _ _ ?_; clear hK K
  have hr0 := fun o => box18 (w3.alloc o) noCw nil7 28
  simp only [World.size_alloc] at hr0
  have hr8 : ((w3.alloc (.cells #[.int .i64 0, .int .i64 0, .int .i64 0, .int .i64 0] 3)).alloc (.cells #[.int .i64 0, .int .i64 0, .int .i64 0, .int .i64 0, .int .i64 0, .slice none 0 0, .slice none 0 0, .int .i64 0, .slice none 0 0, .int .i64 0, .slice none 0 0, .int .i64 0, .slice none 0 0, .int .i64 0, .slice none 0 0, .int .i64 0, .slice none 0 0, .int .i64 0] 28)).rowIs (w3.heap.size + 1) 28 18 (r18 [.int .i64 0, .int .i64 0, .int .i64 0, .int .i64 0, .int .i64 0, .slice none 0 0, .slice none 0 0, .int .i64 0, .slice none 0 0, .int .i64 0, .slice none 0 0, .int .i64 0, .slice none 0 0, .int .i64 0, .slice none 0 0, .int .i64 0, .slice none 0 0, .int .i64 0]) := hr0 _
  have hr4 := (World.rowIs_alloc w3 #[.int .i64 0, .int .i64 0, .int .i64 0, .int .i64 0] 3 (fun _ => .int .i64 0) (fun i hi => by
    have hi' : i < 4 := hi
    rcases (show i = 0 ∨ i = 1 ∨ i = 2 ∨ i = 3 by omega) with rfl | rfl | rfl | rfl <;> rfl)).alloc (.cells #[.int .i64 0, .int .i64 0, .int .i64 0, .int .i64 0, .int .i64 0, .slice none 0 0, .slice none 0 0, .int .i64 0, .slice none 0 0, .int .i64 0, .slice none 0 0, .int .i64 0, .slice none 0 0, .int .i64 0, .slice none 0 0, .int .i64 0, .slice none 0 0, .int .i64 0] 28)
  have hr6 := ((unhide R3).alloc (.cells #[.int .i64 0, .int .i64 0, .int .i64 0, .int .i64 0] 3)).alloc (.cells #[.int .i64 0, .int .i64 0, .int .i64 0, .int .i64 0, .int .i64 0, .slice none 0 0, .slice none 0 0, .int .i64 0, .slice none 0 0, .int .i64 0, .slice none 0 0, .int .i64 0, .slice none 0 0, .int .i64 0, .slice none 0 0, .int .i64 0, .slice none 0 0, .int .i64 0] 28)
  have hbx := ((unhide B3).alloc (unhide B3).size (.cells #[.int .i64 0, .int .i64 0, .int .i64 0, .int .i64 0] 3)).alloc (by rw [World.size_alloc]; exact Nat.le_succ_of_le (unhide B3).size) (.cells #[.int .i64 0, .int .i64 0, .int .i64 0, .int .i64 0, .int .i64 0, .slice none 0 0, .slice none 0 0, .int .i64 0, .slice none 0 0, .int .i64 0, .slice none 0 0, .int .i64 0, .slice none 0 0, .int .i64 0, .slice none 0 0, .int .i64 0, .slice none 0 0, .int .i64 0] 28)
  have hws := (unhide R3).lt
  clear hr0 R3 B3
  refine wpList_store_mid rfl _ _ _ rfl (w3.heap.size + 1) 0 #[.int .i64 j, .int .i64 k, .int .i64 n, .int .i64 0, .int .i64 0, .slice none 0 0, .slice none 0 0, .int .i64 0, .slice none 0 0, .int .i64 0, .slice none 0 0, .int .i64 0, .slice none 0 0, .int .i64 0, .slice none 0 0, .int .i64 n, .slice (some ⟨w3.heap.size, 0, none⟩) 4 4, .int .i64 0] rfl rfl (there_row hr8) info18 (one18 j k n 0 0 0 0 0 0 n 0 ⟨.slice none 0 0, .slice none 0 0, .slice none 0 0, .slice none 0 0, .slice none 0 0, .slice none 0 0, .slice (some ⟨w3.heap.size, 0, none⟩) 4 4⟩ (by simp [Value.oneCell'])) ?_
  have q8 := row_all (n := 18) [.int .i64 j, .int .i64 k, .int .i64 n, .int .i64 0, .int .i64 0, .slice none 0 0, .slice none 0 0, .int .i64 0, .slice none 0 0, .int .i64 0, .slice none 0 0, .int .i64 0, .slice none 0 0, .int .i64 0, .slice none 0 0, .int .i64 n, .slice (some ⟨w3.heap.size, 0, none⟩) 4 4, .int .i64 0] rfl hr8
  have q4 := hr4.of_block (heap_setCells (b := w3.heap.size + 1) [.int .i64 j, .int .i64 k, .int .i64 n, .int .i64 0, .int .i64 0, .slice none 0 0, .slice none 0 0, .int .i64 0, .slice none 0 0, .int .i64 0, .slice none 0 0, .int .i64 0, .slice none 0 0, .int .i64 0, .slice none 0 0, .int .i64 n, .slice (some ⟨w3.heap.size, 0, none⟩) 4 4, .int .i64 0] 0 _ _ (by omega))
  have q6 := hr6.of_block (heap_setCells (b := w3.heap.size + 1) [.int .i64 j, .int .i64 k, .int .i64 n, .int .i64 0, .int .i64 0, .slice none 0 0, .slice none 0 0, .int .i64 0, .slice none 0 0, .int .i64 0, .slice none 0 0, .int .i64 0, .slice none 0 0, .int .i64 0, .slice none 0 0, .int .i64 n, .slice (some ⟨w3.heap.size, 0, none⟩) 4 4, .int .i64 0] 0 _ _ (by omega))
  have qb := below_setCells (b := w3.heap.size + 1) (by omega) [.int .i64 j, .int .i64 k, .int .i64 n, .int .i64 0, .int .i64 0, .slice none 0 0, .slice none 0 0, .int .i64 0, .slice none 0 0, .int .i64 0, .slice none 0 0, .int .i64 0, .slice none 0 0, .int .i64 0, .slice none 0 0, .int .i64 n, .slice (some ⟨w3.heap.size, 0, none⟩) 4 4, .int .i64 0] 0 _ hbx
  clear hr8 hr4 hr6 hbx
  generalize ((w3.alloc _).alloc _).setCells _ 0 _ = X at q8 q4 q6 qb ⊢
  generalize w3.heap.size = S at q8 q4 hws ⊢
  clear w3
  have HS0 := hide (show SwSt (S + 2) (S + 1) S X j k n (.slice none 0 0) (.slice none 0 0) [] [] from ⟨by omega, by omega, q8, q4, ⟨rfl, Or.inl ⟨rfl, rfl⟩⟩, ⟨rfl, Or.inl ⟨rfl, rfl⟩⟩⟩)
  have Q6 := hide q6; have QB := hide qb
  clear q8 q4 q6 qb
  have hk8 : k ≤ 8 := by have := (unhide H2).2; omega
  have hn16 : n ≤ 16 := by have := (unhide H3).2; omega
  obtain ⟨j3, hJ, hW0, hW1, hW2⟩ := info_parts infoHandM
  obtain ⟨j1, hI, hI0, hI1, hI2⟩ := info_parts infoIntM
  have HJ := hide hJ; have HW0 := hide hW0; have HW1 := hide hW1; have HW2 := hide hW2
  have HI := hide hI; have HI0 := hide hI0; have HI1 := hide hI1; have HI2 := hide hI2
  clear hJ hW0 hW1 hW2 hI hI0 hI1 hI2
  go_wp2_with fail
  go_loopw [9] (fun i wr => ∃ (c : Nat) (aH : Option Addr) (nH cH : Nat), c ≤ k ∧ i = .int .i64 c ∧ Hid (SwSt (S + 2) (S + 1) S wr j k n (.slice aH nH cH) (.slice none 0 0) (List.replicate c ⟨0, 0⟩) []) ∧ Hid (Below (S + 1) X wr)) (fun i _ => k - (intOf i).toNat)
  case atStart => exact ⟨0, none, 0, 0, Nat.zero_le _, rfl, HS0, hide (Below.refl _ _)⟩
  case round =>
    obtain ⟨c, aH, nH, cH, hk, rfl, HS, HB⟩ := hrel
    by_cases hlt : c < k
    · have hr := HS.out.row
      have y6 := hr.cell (i := 6) (by omega); have f6 := hr.frozen 6
      simp only [r18, List.getD_cons_zero, List.getD_cons_succ] at y6
      have hsw := (unhide HB).size
      have hsl := hr.lt
      have y6a : ∀ ob, (wr.alloc ob).cell? ⟨S + 1, 6, none⟩ = some (.slice aH nH cH) := fun ob => (World.cell?_of_block (a := ⟨S + 1, 6, none⟩) (Below.heap_alloc wr ob _ hr.lt)).trans y6
      have hll : (List.replicate c (⟨0, 0⟩ : Hd)).length = c := List.length_replicate
      clear hr
      have HRS := hide (show List.replicate (c + 1) (⟨0, 0⟩ : Hd) = List.replicate c ⟨0, 0⟩ ++ [⟨0, 0⟩] from List.replicate_succ')
      generalize List.replicate c (⟨0, 0⟩ : Hd) = hsL at HS HRS hll
      go_wp2_with (at_builtin; refine append_row _ rfl _ _ 26 rfl (S + 2) 60 j3 (.agg #[.int .i64 0, .int .i64 0]) 2 16 Try.underlying26 (unhide HJ) (unhide HW0) (unhide HW1) (unhide HW2) rfl (by decide) (.slice aH nH cH) hsL.length (hsL.map Hd.cs).flatten rfl (World.ownsRow.alloc HS.out.oh _) ⟨wr.heap.size, 0, none⟩ 1 1 [.int .i64 0, .int .i64 0] rfl rfl (cell_twoT wr _ _ _) (fun u hu => by simp at hu; subst hu; rfl) (by decide) (by unfold maxLen; omega) (by omega) (by simp; omega) ?_; intro v' w8 hown8 hgrow8 hat8; obtain ⟨g8, cap8, rfl, hg1, hg2⟩ := hown8.form (by omega); have hr8 := HS.out.row.of_block ((hgrow8.block (S + 1) (by simp; omega) (fun e => by have := (HS.out.oh.lt (S + 1) e.symm).1; omega)).trans (Below.heap_alloc wr _ _ HS.out.row.lt)); have u1 := hr8.cell (i := 6) (by omega); have uz1 := hr8.frozen 6; simp only [r18, List.getD_cons_zero, List.getD_cons_succ] at u1; have hadd := (HS.out.keep ((Below.refl _ _).alloc (Nat.le_refl _) (.cells #[.int .i64 0, .int .i64 0] 60))).addH ⟨0, 0⟩ hown8 hgrow8; have hbx : Below (S + 1) X (w8.setCell ⟨S + 1, 6, none⟩ (.slice (some ⟨g8, 0, none⟩) (hsL.length + 1) cap8)) := (((unhide HB).trans ((Below.refl _ wr).alloc (by omega) (.cells #[.int .i64 0, .int .i64 0] 60))).trans ((Below.refl (S + 1) _).grown hgrow8 (by simp; omega) (fun g e => by have := (HS.out.oh.lt g e).1; omega))).setCell (by simp) _; rw [← unhide HRS] at hadd; have HAD := hide hadd; have HXX := hide hbx; clear hadd hbx hown8 hgrow8 hat8 hr8)
      go_roundw
      case rel => rw [hll] at HAD HXX; exact ⟨c + 1, some ⟨g8, 0, none⟩, c + 1, cap8, by omega, by go_num, HAD, HXX⟩
      case measure => simp [intOf]; omega
    · obtain rfl : c = k := by omega
      have HS1 := hide HS.out; have HB1 := hide HB.out
      clear HS HB HS0
      go_wp2_with fail
      go_loopw [10] (fun i wr => ∃ (d : Nat) (aG : Option Addr) (nG cG : Nat), d ≤ n ∧ i = .int .i64 d ∧ Hid (SwSt (S + 2) (S + 1) S wr j c n (.slice aH nH cH) (.slice aG nG cG) (List.replicate c ⟨0, 0⟩) (List.replicate d (-1))) ∧ Hid (Below (S + 1) X wr)) (fun i _ => n - (intOf i).toNat)
      case atStart => exact ⟨0, none, 0, 0, Nat.zero_le _, rfl, HS1, HB1⟩
      case round =>
        obtain ⟨d, aG, nG, cG, hd, rfl, HS, HB⟩ := hrel
        by_cases hlt2 : d < n
        · have hr := HS.out.row
          have y6 := hr.cell (i := 10) (by omega); have f6 := hr.frozen 10
          simp only [r18, List.getD_cons_zero, List.getD_cons_succ] at y6
          have hsw := (unhide HB).size
          have hsl := hr.lt
          have y6a : ∀ ob, (wr.alloc ob).cell? ⟨S + 1, 10, none⟩ = some (.slice aG nG cG) := fun ob => (World.cell?_of_block (a := ⟨S + 1, 10, none⟩) (Below.heap_alloc wr ob _ hr.lt)).trans y6
          have hll : (List.replicate d (-1 : Int)).length = d := List.length_replicate
          clear hr
          have HRS := hide (show List.replicate (d + 1) ((-1) : Int) = List.replicate d (-1) ++ [(-1)] from List.replicate_succ')
          generalize List.replicate d ((-1) : Int) = hsL at HS HRS hll
          go_wp2_with (at_builtin; refine append_row _ rfl _ _ 25 rfl (S + 2) 3 j1 (.int .i64 0) 1 8 Try.underlying25 (unhide HI) (unhide HI0) (unhide HI1) (unhide HI2) rfl (by decide) (.slice aG nG cG) hsL.length (hsL.map zcs).flatten rfl (World.ownsRow.alloc HS.out.og _) ⟨wr.heap.size, 0, none⟩ 1 1 [.int .i64 (-1)] rfl rfl (cell_one wr _ _) (fun u hu => by simp at hu; subst hu; rfl) (by decide) (by unfold maxLen; omega) (by omega) (by simp; omega) ?_; intro v' w8 hown8 hgrow8 hat8; obtain ⟨g8, cap8, rfl, hg1, hg2⟩ := hown8.form (by omega); have hr8 := HS.out.row.of_block ((hgrow8.block (S + 1) (by simp; omega) (fun e => by have := (HS.out.og.lt (S + 1) e.symm).1; omega)).trans (Below.heap_alloc wr _ _ HS.out.row.lt)); have u1 := hr8.cell (i := 10) (by omega); have uz1 := hr8.frozen 10; simp only [r18, List.getD_cons_zero, List.getD_cons_succ] at u1; have hadd := (HS.out.keep ((Below.refl _ _).alloc (Nat.le_refl _) (.cells #[.int .i64 (-1)] 3))).addG (-1) hown8 hgrow8; have hbx : Below (S + 1) X (w8.setCell ⟨S + 1, 10, none⟩ (.slice (some ⟨g8, 0, none⟩) (hsL.length + 1) cap8)) := (((unhide HB).trans ((Below.refl _ wr).alloc (by omega) (.cells #[.int .i64 (-1)] 3))).trans ((Below.refl (S + 1) _).grown hgrow8 (by simp; omega) (fun g e => by have := (HS.out.og.lt g e).1; omega))).setCell (by simp) _; rw [← unhide HRS] at hadd; have HAD := hide hadd; have HXX := hide hbx; clear hadd hbx hown8 hgrow8 hat8 hr8)
          go_roundw
          case rel => rw [hll] at HAD HXX; exact ⟨d + 1, some ⟨g8, 0, none⟩, d + 1, cap8, by omega, by go_num, HAD, HXX⟩
          case measure => simp [intOf]; omega
        · obtain rfl : d = n := by omega
          go_upto_region 12 with fail
          refine wp_region_list ?_
          obtain ⟨dd, hdu, hdr⟩ := rowWorld
          have hr := HS.out.row
          refine wpList_load_mid rfl _ _ rfl (S + 1) 0 rfl [.int .i64 j, .int .i64 c, .int .i64 d, .int .i64 0, .int .i64 0, .slice none 0 0, .slice aH nH cH, .int .i64 0, .slice none 0 0, .int .i64 0, .slice aG nG cG, .int .i64 0, .slice none 0 0, .int .i64 0, .slice none 0 0, .int .i64 d, .slice (some ⟨S, 0, none⟩) 4 4, .int .i64 0] dd (range_row [.int .i64 j, .int .i64 c, .int .i64 d, .int .i64 0, .int .i64 0, .slice none 0 0, .slice aH nH cH, .int .i64 0, .slice none 0 0, .int .i64 0, .slice aG nG cG, .int .i64 0, .slice none 0 0, .int .i64 0, .slice none 0 0, .int .i64 d, .slice (some ⟨S, 0, none⟩) 4 4, .int .i64 0] rfl hr) hdu hdr info18 ?_
          have q6 := (unhide Q6).of_block ((unhide HB).block _ (by omega))
          have hbw := (unhide QB).trans ((unhide HB).mono (by omega))
          refine wpList_store_mid rfl _ _ _ rfl w.heap.size 0 #[.int .i64 j, .int .i64 c, .int .i64 d, .int .i64 0, .int .i64 0, .slice none 0 0, .slice aH nH cH, .int .i64 0, .slice none 0 0, .int .i64 0, .slice aG nG cG, .int .i64 0, .slice none 0 0, .int .i64 0, .slice none 0 0, .int .i64 d, .slice (some ⟨S, 0, none⟩) 4 4, .int .i64 0] rfl rfl (there_row q6) info18 (one18 j c d 0 0 0 0 0 0 d 0 ⟨.slice none 0 0, .slice aH nH cH, .slice none 0 0, .slice aG nG cG, .slice none 0 0, .slice none 0 0, .slice (some ⟨S, 0, none⟩) 4 4⟩ (by simp [Value.oneCell'])) ?_
          have hr2 := row_all (n := 18) [.int .i64 j, .int .i64 c, .int .i64 d, .int .i64 0, .int .i64 0, .slice none 0 0, .slice aH nH cH, .int .i64 0, .slice none 0 0, .int .i64 0, .slice aG nG cG, .int .i64 0, .slice none 0 0, .int .i64 0, .slice none 0 0, .int .i64 d, .slice (some ⟨S, 0, none⟩) 4 4, .int .i64 0] rfl q6
          have hb2 := below_setCells (Nat.le_refl w.heap.size) [.int .i64 j, .int .i64 c, .int .i64 d, .int .i64 0, .int .i64 0, .slice none 0 0, .slice aH nH cH, .int .i64 0, .slice none 0 0, .int .i64 0, .slice aG nG cG, .int .i64 0, .slice none 0 0, .int .i64 0, .slice none 0 0, .int .i64 d, .slice (some ⟨S, 0, none⟩) 4 4, .int .i64 0] 0 wr hbw
          have hend := HS.out.end (W' := wr.setCells w.heap.size 0 [.int .i64 j, .int .i64 c, .int .i64 d, .int .i64 0, .int .i64 0, .slice none 0 0, .slice aH nH cH, .int .i64 0, .slice none 0 0, .int .i64 0, .slice aG nG cG, .int .i64 0, .slice none 0 0, .int .i64 0, .slice none 0 0, .int .i64 d, .slice (some ⟨S, 0, none⟩) 4 4, .int .i64 0]) (fun b hb _ => heap_setCells _ _ _ _ (by omega)) (by rw [size_setCells]; exact Nat.le_refl _)
          generalize wr.setCells w.heap.size 0 _ = W at hr2 hb2 hend ⊢
          clear hr q6 hbw hdu hdr
          have HB2 := hide hb2; have HEND := hide hend
          clear hb2 hend
          go_wp2_with fail
          refine bodyPost_ret (v := .tuple #[.agg #[.int .i64 j, .int .i64 c, .int .i64 d, .int .i64 0, .int .i64 0, .slice none 0 0, .slice aH nH cH, .int .i64 0, .slice none 0 0, .int .i64 0, .slice aG nG cG, .int .i64 0, .slice none 0 0, .int .i64 0, .slice none 0 0, .int .i64 d, .slice (some ⟨S, 0, none⟩) 4 4, .int .i64 0], .bool true]) (results18 (by rfl) _ _ w.heap.size [.int .i64 j, .int .i64 c, .int .i64 d, .int .i64 0, .int .i64 0, .slice none 0 0, .slice aH nH cH, .int .i64 0, .slice none 0 0, .int .i64 0, .slice aG nG cG, .int .i64 0, .slice none 0 0, .int .i64 0, .slice none 0 0, .int .i64 d, .slice (some ⟨S, 0, none⟩) 4 4, .int .i64 0] _ rfl rfl hr2 rfl) rfl ?_
          obtain ⟨Fh, Fg, e1, e2, e3⟩ := unhide HEND
          have hcw : stCw j c d = ⟨j, c, d, 0, 0, [], List.replicate c ⟨0, 0⟩, 0, [], 0, List.replicate d (-1), 0, [], 0, [], d, [0, 0, 0, 0], 0⟩ := if_pos (unhide HOK)
          rw [hcw, unhide HE]
          exact ⟨_, [], Fh, [], Fg, [], [], [S], rfl, e1, e2, fun b hb => ⟨by have := (e3 b hb).1; omega, (e3 b hb).2⟩, unhide HB2⟩
end Go.Proofs.Ytchbialjgcejgaa
