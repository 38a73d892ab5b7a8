/- What is left of a file: the program's sureView.data, openView.data, numberAt. Conditions: the file is ok. -/
import Derived.Test.YtgdiankfnemjjaaGreatPart07
import Derived.Test.YtgdiankfnemjjaaGreatPart00
import Derived.Deep.RegionLaw
import Derived.Test.YtgdiankfnemjjaaGreatPart01
import Derived.Deep.CutRange
import Derived.Test.YtgdiankfnemjjaaGreatRows
import Derived.Orders
import Derived.WalkKit
namespace Go.Proofs.YtgdiankfnemjjaaGreat
open Go Go.RowKit Go.WideMaps Go.Maps

set_option maxHeartbeats 400000 in
theorem numberAt_any (zs : List Int) (v : Value) (i : Nat) (w : World) {P : Nat → Prop} (hv : ZsAt P w v zs) :
    Calls Tryz.prog 80 #[v, .int .i64 (i : Int)] w fun e w' => e = .returned (.int .i64 (zs.getD i 0)) ∧ w' = w := by
  obtain ⟨a, cap, rfl, hlen, hc⟩ := hv
  by_cases hlt : i < zs.length
  · obtain ⟨b, o, rfl, -, hcell, -⟩ := hc i hlt
    have h1 : decide ((zs.length : Int) ≤ (i : Int)) = false := by simp; omega
    have hii : (i : Int) < (zs.length : Int) := by omega
    have HG := hide (show zs.getD i 0 = zs[i] by simp [List.getD, hlt])
    clear hc
    generalize zs[i] = z at *
    go_enter Tryz.func80, Tryz.ntmps80
    go_wp2_with fail
    go_ret
    exact ⟨by rw [unhide HG]; rfl, rfl⟩
  · have h1 : decide ((zs.length : Int) ≤ (i : Int)) = true := by simp; omega
    have HG := hide (show zs.getD i 0 = 0 by simp [List.getD, hlt])
    clear hc
    go_enter Tryz.func80, Tryz.ntmps80
    go_wp2_with fail
    go_ret
    exact ⟨by rw [unhide HG]; rfl, rfl⟩

/-- How many bytes that are not sure stay. -/
def moreN (f : Df) (n : Int) : Nat := (max 0 (min n ((f.data.size : Int) - f.kept))).toNat
/-- The bytes that are left of a file. -/
def cutB (f : Df) (n : Int) : ByteArray := f.data.extract 0 f.kept.toNat ++ (f.data.extract f.kept.toNat f.data.size).extract 0 (moreN f n)
def cutF (f : Df) (n : Int) : Df := ⟨f.name, cutB f n, (cutB f n).size⟩

set_option maxRecDepth 100000 in
set_option maxHeartbeats 800000 in
theorem sureData_any (fs : List Df) (a0 : Option Addr) (n0 p0 : Nat) (T B : Nat) (x2 : Option Addr) (n2 m2 : Nat) (P : Nat → Prop) (w : World) (hP : ∀ b, P b → b < w.heap.size) (hv : FsAt P w (.slice a0 n0 p0) fs) (hrow : w.rowIs T 114 2 (rowO (.slice a0 n0 p0) (.map (some B)))) (i : Nat) (hi : i < fs.length) (hk : 0 ≤ fs[i].kept ∧ fs[i].kept ≤ fs[i].data.size) :
    Calls Tryz.prog 78 #[.agg #[.pointer (some ⟨T, 0, none⟩), .slice x2 n2 m2], .int .i64 (i : Int)] w fun e w' => e = .returned (.string (fs[i].data.extract 0 fs[i].kept.toNat)) ∧ Below w.heap.size w w' := by
  obtain ⟨a, cap, e0, hlen, hc⟩ := hv.open
  simp only [Value.slice.injEq] at e0
  obtain ⟨rfl, rfl, rfl⟩ := e0
  obtain ⟨b, o, rfl, hpb, ⟨c0, c1, c2⟩, hok⟩ := hc i hi
  simp only at c0 c1 c2
  have hbx : ∀ o o', Below w.heap.size w ((w.alloc o).alloc o') := fun o o' => ((Below.refl _ _).alloc (Nat.le_refl _) o).alloc (by simp) o'
  have hbb := hP b hpb
  have t0 := hrow.cell (i := 0) (by omega)
  simp only [rowO] at t0
  have hTl := hrow.lt
  have T0 : ∀ o', (w.alloc o').cell? ⟨T, 0, none⟩ = some (.slice (some ⟨b, o, none⟩) fs.length p0) := fun o' => by rw [World.cell?_of_block (w := w) (Below.heap_alloc _ _ _ hTl)]; exact t0
  have C0 : ∀ o', (w.alloc o').cell? ⟨b, o + i * 3, none⟩ = some (.string fs[i].name) := fun o' => by rw [World.cell?_of_block (w := w) (Below.heap_alloc _ _ _ hbb)]; exact c0
  have C1 : ∀ o', (w.alloc o').cell? ⟨b, o + i * 3 + 1, none⟩ = some (.string fs[i].data) := fun o' => by rw [World.cell?_of_block (w := w) (Below.heap_alloc _ _ _ hbb)]; exact c1
  have C2 : ∀ o', (w.alloc o').cell? ⟨b, o + i * 3 + 2, none⟩ = some (.int .i64 fs[i].kept) := fun o' => by rw [World.cell?_of_block (w := w) (Below.heap_alloc _ _ _ hbb)]; exact c2
  have hii : (i : Int) < (fs.length : Int) := by omega
  have HBX := hide hbx
  clear hv hc hpb c0 c1 c2 t0 hrow hbx hP hok
  generalize fs[i] = f at *
  obtain ⟨fn, fd, fk⟩ := f
  simp only at *
  obtain ⟨hk0, hk1⟩ := hk
  obtain ⟨kk, rfl⟩ : ∃ kk : Nat, fk = kk := ⟨fk.toNat, by omega⟩
  go_enter Tryz.func78, Tryz.ntmps78
  go_wp2_with fail
  go_ret
  exact ⟨by simp, unhide HBX _ _⟩

set_option maxRecDepth 100000 in
set_option maxHeartbeats 800000 in
theorem openData_any (fs : List Df) (a0 : Option Addr) (n0 p0 : Nat) (T B : Nat) (x2 : Option Addr) (n2 m2 : Nat) (P : Nat → Prop) (w : World) (hP : ∀ b, P b → b < w.heap.size) (hv : FsAt P w (.slice a0 n0 p0) fs) (hrow : w.rowIs T 114 2 (rowO (.slice a0 n0 p0) (.map (some B)))) (i : Nat) (hi : i < fs.length) (hk : 0 ≤ fs[i].kept ∧ fs[i].kept ≤ fs[i].data.size) (hds : fs[i].data.size ≤ 20000) (n : Int) :
    Calls Tryz.prog 79 #[.agg #[.pointer (some ⟨T, 0, none⟩), .slice x2 n2 m2], .int .i64 (i : Int), .int .i64 n] w fun e w' => e = .returned (.string ((fs[i].data.extract fs[i].kept.toNat fs[i].data.size).extract 0 (moreN fs[i] n))) ∧ Below w.heap.size w w' := by
  obtain ⟨a, cap, e0, hlen, hc⟩ := hv.open
  simp only [Value.slice.injEq] at e0
  obtain ⟨rfl, rfl, rfl⟩ := e0
  obtain ⟨b, o, rfl, hpb, ⟨c0, c1, c2⟩, hok⟩ := hc i hi
  simp only at c0 c1 c2
  have hbx : ∀ o o', Below w.heap.size w ((w.alloc o).alloc o') := fun o o' => ((Below.refl _ _).alloc (Nat.le_refl _) o).alloc (by simp) o'
  have hbb := hP b hpb
  have t0 := hrow.cell (i := 0) (by omega)
  simp only [rowO] at t0
  have hTl := hrow.lt
  have T0 : ∀ o', (w.alloc o').cell? ⟨T, 0, none⟩ = some (.slice (some ⟨b, o, none⟩) fs.length p0) := fun o' => by rw [World.cell?_of_block (w := w) (Below.heap_alloc _ _ _ hTl)]; exact t0
  have C0 : ∀ o', (w.alloc o').cell? ⟨b, o + i * 3, none⟩ = some (.string fs[i].name) := fun o' => by rw [World.cell?_of_block (w := w) (Below.heap_alloc _ _ _ hbb)]; exact c0
  have C1 : ∀ o', (w.alloc o').cell? ⟨b, o + i * 3 + 1, none⟩ = some (.string fs[i].data) := fun o' => by rw [World.cell?_of_block (w := w) (Below.heap_alloc _ _ _ hbb)]; exact c1
  have C2 : ∀ o', (w.alloc o').cell? ⟨b, o + i * 3 + 2, none⟩ = some (.int .i64 fs[i].kept) := fun o' => by rw [World.cell?_of_block (w := w) (Below.heap_alloc _ _ _ hbb)]; exact c2
  have hii : (i : Int) < (fs.length : Int) := by omega
  have HBX := hide hbx
  clear hv hc hpb c0 c1 c2 t0 hrow hbx hP hok
  generalize fs[i] = f at *
  obtain ⟨fn, fd, fk⟩ := f
  simp only at *
  obtain ⟨hk0, hk1⟩ := hk
  obtain ⟨kk, rfl⟩ : ∃ kk : Nat, fk = kk := ⟨fk.toNat, by omega⟩
  have hes : (fd.extract kk fd.size).size = fd.size - kk := by rw [ByteArray.size_extract]; omega
  obtain ⟨q, hq⟩ : ∃ q : Nat, max 0 (min n (((fd.size - kk : Nat) : Int))) = q := ⟨(max 0 (min n (((fd.size - kk : Nat) : Int)))).toNat, by omega⟩
  have hq1 : q ≤ fd.size - kk := by omega
  have HQ := hide (show moreN ⟨fn, fd, kk⟩ n = q by unfold moreN; simp only; omega)
  generalize moreN ⟨fn, fd, kk⟩ n = mq at *
  go_enter Tryz.func79, Tryz.ntmps79
  go_wp2_with fail
  go_ret
  exact ⟨by rw [unhide HQ]; simp, unhide HBX _ _⟩
end Go.Proofs.YtgdiankfnemjjaaGreat

/- Disks that own their memory: definitions and small laws, no program. No conditions. -/

namespace Go.Proofs.YtgdiankfnemjjaaGreat
open Go Go.RowKit

/-- Rows of n cells each, in a block of their own. -/
def FlatOwn (w : World) (v : Value) (n : Nat) (rs : List (List Value)) (F : List Nat) : Prop :=
  ∃ a cap, v = .slice a rs.length cap ∧ rs.length ≤ 9223372036854775807 ∧ ((rs = [] ∧ F = []) ∨ ∃ b, a = some ⟨b, 0, none⟩ ∧ F = [b] ∧ FreeB w b ∧ ∀ i, (h : i < rs.length) → ∀ j, j < n → w.cell? ⟨b, i * n + j, none⟩ = some (rs[i].getD j undef))
theorem FlatOwn.carry {w w' : World} {v : Value} {n : Nat} {rs : List (List Value)} {F : List Nat} (h : FlatOwn w v n rs F) (hF : ∀ b, b ∈ F → w'.heap[b]? = w.heap[b]?) : FlatOwn w' v n rs F := by
  obtain ⟨a, cap, h1, h2, h3⟩ := h
  refine ⟨a, cap, h1, h2, ?_⟩
  rcases h3 with h | ⟨b, e, rfl, hf, hc⟩
  · exact Or.inl h
  · have hb := hF b (by simp)
    exact Or.inr ⟨b, e, rfl, hf.of_block hb, fun i hi j hj => by rw [World.cell?_of_block (w := w) hb]; exact hc i hi j hj⟩
theorem FlatOwn.at {w : World} {v : Value} {n : Nat} {rs : List (List Value)} {F : List Nat} (h : FlatOwn w v n rs F) : FlatAt (· ∈ F) w v n rs := by
  obtain ⟨a, cap, h1, h2, h3⟩ := h
  refine ⟨a, cap, h1, h2, fun i hi => ?_⟩
  rcases h3 with ⟨rfl, -⟩ | ⟨b, e, rfl, hf, hc⟩
  · simp at hi
  · exact ⟨b, 0, e, by simp, fun j hj => by rw [Nat.zero_add]; exact hc i hi j hj⟩
theorem FlatOwn.nil (w : World) (n : Nat) : FlatOwn w (.slice none 0 0) n [] [] := ⟨none, 0, rfl, by simp, Or.inl ⟨rfl, rfl⟩⟩
theorem flat_get {n : Nat} : ∀ (rs : List (List Value)), (∀ r, r ∈ rs → r.length = n) → ∀ (i : Nat) (hi : i < rs.length) (j : Nat), j < n → rs.flatten[i * n + j]? = some (rs[i].getD j undef)
  | r :: rest, hn, 0, _, j, hj => by
    have hr : r.length = n := hn r List.mem_cons_self
    rw [List.flatten_cons, Nat.zero_mul, Nat.zero_add, List.getElem?_append_left (by omega), List.getElem?_eq_getElem (by omega)]
    simp [hr, hj]
  | r :: rest, hn, i + 1, hi, j, hj => by
    have hr : r.length = n := hn r List.mem_cons_self
    rw [List.flatten_cons, List.getElem?_append_right (by rw [hr, Nat.add_mul]; omega), hr, show (i + 1) * n + j - n = i * n + j by rw [Nat.add_mul]; omega, flat_get rest (fun x hx => hn x (List.mem_cons_of_mem _ hx)) i (by simpa using hi) j hj]
    rfl
theorem flat_len {n : Nat} : ∀ (rs : List (List Value)), (∀ r, r ∈ rs → r.length = n) → rs.flatten.length = rs.length * n
  | [], _ => by simp
  | r :: rest, hn => by
    rw [List.flatten_cons, List.length_append, flat_len rest (fun x hx => hn x (List.mem_cons_of_mem _ hx)), hn r List.mem_cons_self, List.length_cons, Nat.add_mul]; omega
/-- A row of the call's own is such. -/
theorem FlatOwn.of_row {base : Nat} {w : World} {v : Value} {e : TypeId} {n : Nat} {rs : List (List Value)} (h : w.ownsRow base e n v rs.length rs.flatten) (hn : ∀ r, r ∈ rs → r.length = n) :
    ∃ F, FlatOwn w v n rs F ∧ (∀ b, b ∈ F → v.ownBlock = some b) ∧ (∀ b, b ∈ F → base ≤ b ∧ b < w.heap.size) ∧ F.Nodup := by
  rcases h.2 with ⟨hv, h0⟩ | ⟨g, cap, cur, hv, hb, hh, hle, hm, hsz, htk⟩
  · have : rs = [] := List.eq_nil_of_length_eq_zero h0
    subst this
    exact ⟨[], ⟨none, 0, hv, by simp, Or.inl ⟨rfl, rfl⟩⟩, fun b hb => (by cases hb), fun b hb => (by cases hb), List.nodup_nil⟩
  · refine ⟨[g], ⟨some ⟨g, 0, none⟩, cap, hv, by unfold maxLen at hm; omega, Or.inr ⟨g, rfl, rfl, freeOfHeap hh, fun i hi j hj => ?_⟩⟩, fun b hb => ?_, fun b hb => ?_, by simp⟩
    · have h1 := flat_get rs hn i hi j hj
      have hlt : i * n + j < rs.length * n := by
        have : (i + 1) * n ≤ rs.length * n := Nat.mul_le_mul_right n hi
        rw [Nat.add_mul] at this; omega
      rw [← htk, List.getElem?_take_of_lt hlt] at h1
      simp only [World.cell?, hh]
      simpa using h1
    · simp at hb; subst hb; rw [hv]; rfl
    · simp at hb; subst hb
      exact ⟨by assumption, (Array.getElem?_eq_some_iff.1 hh).1⟩

/-- Files, moves in blocks of their own. -/
def FsOwn (w : World) (v : Value) (fs : List Df) (F : List Nat) : Prop := FlatOwn w v 3 (fs.map Df.cs) F ∧ ∀ f, f ∈ fs → f.okM
def MsOwn (w : World) (v : Value) (ms : List Dm) (F : List Nat) : Prop := FlatOwn w v 2 (ms.map Dm.cs) F ∧ ∀ m, m ∈ ms → m.okM
/-- A disk in blocks of its own. -/
structure DkOwn (w : World) (d : Dk) (c : C3) (F0 F1 F2 : List Nat) : Prop where
  fs : FsOwn w c.c0 d.files F0
  ns : StrsOwn w c.c1 d.names F1
  ms : MsOwn w c.c2 d.moves F2
theorem DkOwn.carry {w w' : World} {d : Dk} {c : C3} {F0 F1 F2 : List Nat} (h : DkOwn w d c F0 F1 F2) (hF : ∀ b, b ∈ F0 ++ F1 ++ F2 → w'.heap[b]? = w.heap[b]?) : DkOwn w' d c F0 F1 F2 :=
  ⟨⟨h.fs.1.carry (fun b hb => hF b (by simp [hb])), h.fs.2⟩, h.ns.carry (fun b hb => hF b (by simp [hb])), ⟨h.ms.1.carry (fun b hb => hF b (by simp [hb])), h.ms.2⟩⟩
theorem DkOwn.at {w : World} {d : Dk} {c : C3} {F0 F1 F2 : List Nat} (h : DkOwn w d c F0 F1 F2) : DkAt (· ∈ F0 ++ F1 ++ F2) w d c :=
  ⟨⟨h.fs.1.at.carry (fun _ _ => rfl) (fun b hb => by simp [hb]), h.fs.2⟩, h.ns.at.carry (fun _ _ => rfl) (fun b hb => by simp [hb]), ⟨h.ms.1.at.carry (fun _ _ => rfl) (fun b hb => by simp [hb]), h.ms.2⟩⟩
theorem DkOwn.none (w : World) : DkOwn w ⟨[], [], []⟩ ⟨.slice none 0 0, .slice none 0 0, .slice none 0 0⟩ [] [] [] :=
  ⟨⟨FlatOwn.nil w 3, fun f hf => (by cases hf)⟩, ⟨Option.none, 0, rfl, by simp, Or.inl ⟨rfl, rfl⟩⟩, ⟨FlatOwn.nil w 2, fun f hf => (by cases hf)⟩⟩
end Go.Proofs.YtgdiankfnemjjaaGreat

/- The program's DiskCut: what is left, in memory of its own; that it turns nothing that was there. No conditions. -/

namespace Go.Proofs.YtgdiankfnemjjaaGreat
open Go Go.RowKit Go.WideMaps Go.Maps

theorem ownsRow_keep {w w' : World} {base : Nat} {e : TypeId} {size : Nat} {v : Value} {n : Nat} {xs : List Value} (h : w.ownsRow base e size v n xs) (hk : ∀ g, v.ownBlock = some g → w'.heap[g]? = w.heap[g]?) : w'.ownsRow base e size v n xs := by
  refine ⟨h.1, ?_⟩
  rcases h.2 with h0 | ⟨g, cap, cur, hv, hb, hh, hr⟩
  · exact Or.inl h0
  · exact Or.inr ⟨g, cap, cur, hv, hb, by rw [hk g (by rw [hv]; rfl)]; exact hh, hr⟩

/-- The box of what is left, and its two lists while they grow. -/
structure CtSt (base L : Nat) (W : World) (vf vn : Value) (fs : List Df) (ns : List ByteArray) : Prop where
  lt : L < base
  row : W.rowIs L 37 3 (row3 vf vn (.slice none 0 0))
  of : W.ownsRow base 84 3 vf fs.length (fs.map Df.cs).flatten
  on : W.ownsRow base 9 1 vn ns.length (ns.map Value.string)
theorem CtSt.keep {base L : Nat} {W W' : World} {vf vn : Value} {fs : List Df} {ns : List ByteArray} (h : CtSt base L W vf vn fs ns) (hb : Below W.heap.size W W') : CtSt base L W' vf vn fs ns :=
  ⟨h.lt, h.row.of_block (hb.block L h.row.lt), ownsRow_keep h.of (fun g e => hb.block g (h.of.lt g e).2), ownsRow_keep h.on (fun g e => hb.block g (h.on.lt g e).2)⟩
theorem CtSt.ne {base L : Nat} {W : World} {vf vn : Value} {fs : List Df} {ns : List ByteArray} (h : CtSt base L W vf vn fs ns) (g : Nat) (h1 : vf.ownBlock = some g) (h2 : vn.ownBlock = some g) : False := by
  rcases h.of.2 with ⟨hv, _⟩ | ⟨g1, c1, u1, hv1, _, hh1, _⟩
  · rw [hv] at h1; cases h1
  rcases h.on.2 with ⟨hv, _⟩ | ⟨g2, c2, u2, hv2, _, hh2, _⟩
  · rw [hv] at h2; cases h2
  rw [hv1] at h1; rw [hv2] at h2
  simp only [Value.ownBlock, Option.some.injEq] at h1 h2
  subst h1; subst h2
  rw [hh1] at hh2
  simp only [Option.some.injEq, Obj.cells.injEq] at hh2
  exact absurd hh2.2.1 (by decide)
theorem crow_set {W : World} {g t : Nat} {x0 x1 x2 : Value} (h : W.rowIs g t 3 (row3 x0 x1 x2)) (u : Value) : (W.setCell ⟨g, 0, none⟩ u).rowIs g t 3 (row3 u x1 x2) ∧ (W.setCell ⟨g, 1, none⟩ u).rowIs g t 3 (row3 x0 u x2) := by
  refine ⟨(h.set 0 u).congr (fun i hi => ?_), (h.set 1 u).congr (fun i hi => ?_)⟩
  · rcases (show i = 0 ∨ i = 1 ∨ i = 2 by omega) with rfl | rfl | rfl <;> rfl
  · rcases (show i = 0 ∨ i = 1 ∨ i = 2 by omega) with rfl | rfl | rfl <;> rfl
theorem CtSt.addN {base L : Nat} {W W' : World} {vf vn vn' : Value} {fs : List Df} {ns : List ByteArray} (h : CtSt base L W vf vn fs ns) (x : ByteArray) (hown : W'.ownsRow base 9 1 vn' (ns.length + 1) (ns.map Value.string ++ [.string x])) (hg : W.grownBy W' vn.ownBlock) : CtSt base L (W'.setCell ⟨L, 1, none⟩ vn') vf vn' fs (ns ++ [x]) := by
  have hL : W'.rowIs L 37 3 (row3 vf vn (.slice none 0 0)) := h.row.of_block (hg.block L h.row.lt (fun e => by have := (h.on.lt L e.symm).1; have := h.lt; omega))
  refine ⟨h.lt, (crow_set hL vn').2, ?_, ?_⟩
  · exact ownsRow_setCell_below (ownsRow_keep h.of (fun g e => hg.block g (h.of.lt g e).2 (fun e2 => h.ne g e e2.symm))) h.lt _
  · refine ownsRow_setCell_below ?_ h.lt _
    rw [List.length_append, List.map_append]
    exact hown
theorem CtSt.addF {base L : Nat} {W W' : World} {vf vn vf' : Value} {fs : List Df} {ns : List ByteArray} (h : CtSt base L W vf vn fs ns) (f : Df) (hown : W'.ownsRow base 84 3 vf' (fs.length + 1) ((fs.map Df.cs).flatten ++ f.cs)) (hg : W.grownBy W' vf.ownBlock) : CtSt base L (W'.setCell ⟨L, 0, none⟩ vf') vf' vn (fs ++ [f]) ns := by
  have hL : W'.rowIs L 37 3 (row3 vf vn (.slice none 0 0)) := h.row.of_block (hg.block L h.row.lt (fun e => by have := (h.of.lt L e.symm).1; have := h.lt; omega))
  refine ⟨h.lt, (crow_set hL vf').1, ?_, ?_⟩
  · refine ownsRow_setCell_below ?_ h.lt _
    rw [List.length_append, List.map_append, List.flatten_append]
    simpa using hown
  · exact ownsRow_setCell_below (ownsRow_keep h.on (fun g e => hg.block g (h.on.lt g e).2 (fun e2 => h.ne g e2.symm e))) h.lt _

/-- The names behind so many moves. -/
def cutN (d : Dk) (m : Int) : List ByteArray := afterD d.names (d.moves.take (clampQ m d.moves.length))
/-- What is left of the file of a name. -/
def cutX (d : Dk) (zs : List Int) (x : ByteArray) : Df := cutF (fileD d x) (zs.getD (findF d.files x).toNat 0)
/-- What a loss of power leaves. -/
noncomputable def cutD (d : Dk) (m : Int) (zs : List Int) : Dk := open Classical in if DkOkS d then ⟨(cutN d m).map (cutX d zs), cutN d m, []⟩ else ⟨[], [], []⟩
theorem cutD_ok {d : Dk} {m : Int} {zs : List Int} (h : DkOkS d) : cutD d m zs = ⟨(cutN d m).map (cutX d zs), cutN d m, []⟩ := if_pos h
theorem cutD_no {d : Dk} {m : Int} {zs : List Int} (h : ¬ DkOkS d) : cutD d m zs = ⟨[], [], []⟩ := if_neg h
theorem cutN_facts {d : Dk} (h : DkOkS d) (m : Int) : mfold d.names (d.moves.take (clampQ m d.moves.length)) = some (cutN d m) ∧ (cutN d m).length ≤ 1000 ∧ ∀ x, x ∈ cutN d m → ∃ i, ∃ hi : i < d.files.length, d.files[i].name = x ∧ findF d.files x = i := by
  obtain ⟨hnd, heq, -⟩ := dk_nodup h
  have hq := clampQ_le m d.moves.length
  refine ⟨mfold_after hnd (fun i hi hg => hasB_iff.1 (h.move i hi hg)) _ hq, ?_, fun x hx => ?_⟩
  · have h2 := after_len (d.moves.take (clampQ m d.moves.length)) d.names
    rw [List.length_take] at h2
    unfold cutN
    have := h.l2; have := h.l3; omega
  · have hm := (after_nodup hnd _ hq).2 x hx
    have hm2 := (made_sub d.names d.moves (clampQ m d.moves.length)).subset hm
    rw [← heq] at hm2
    obtain ⟨i, hi, e⟩ := List.getElem_of_mem hm2
    rw [List.length_map] at hi
    rw [List.getElem_map] at e
    refine ⟨i, hi, e, ?_⟩
    have := (h.file i hi (by rw [h.len]; exact hi)).find
    rw [← e]; exact this
theorem infoFileM : (Tryz.prog.info? 84).map (fun i => (i.zero, i.size, i.bytes)) = some (some (.agg #[.string ByteArray.empty, .string ByteArray.empty, .int .i64 0]), 3, 40) := by kernel_rfl
theorem infoFileD : ∃ i, Tryz.prog.info? 84 = some i ∧ i.zero = some (.agg #[.string ByteArray.empty, .string ByteArray.empty, .int .i64 0]) ∧ i.size = 3 ∧ i.bytes = 40 := by
  have := infoFileM
  cases h : Tryz.prog.info? 84 with
  | none => rw [h] at this; simp at this
  | some i => rw [h] at this; exact ⟨i, rfl, by simpa using this⟩
theorem cell_3 (w : World) (x y z : Value) (t : TypeId) : ∀ j u, [x, y, z][j]? = some u → (w.alloc (.cells #[x, y, z] t)).cell? ((⟨w.heap.size, 0, none⟩ : Addr).add j) = some u := by
  intro j u hj
  match j with
  | 0 => simp only [List.getElem?_cons_zero, Option.some.injEq] at hj; subst hj; rw [Addr.add_lit]; simp [go_sem]
  | 1 => simp only [List.getElem?_cons_succ, List.getElem?_cons_zero, Option.some.injEq] at hj; subst hj; rw [Addr.add_lit]; simp [go_sem]
  | 2 => simp only [List.getElem?_cons_succ, List.getElem?_cons_zero, Option.some.injEq] at hj; subst hj; rw [Addr.add_lit]; simp [go_sem]
  | j + 3 => simp at hj
theorem cutB_size (f : Df) (n : Int) (hd : f.data.size ≤ 20000) : (cutB f n).size ≤ 40000 := by
  unfold cutB
  rw [ByteArray.size_append, ByteArray.size_extract, ByteArray.size_extract, ByteArray.size_extract]; omega
end Go.Proofs.YtgdiankfnemjjaaGreat

/- The walks of the specification's l41Copy, l41Keep: disks in new memory. Conditions: the disk is ok, or of at most 1000 of each. -/

namespace Go.Proofs.YtgdiankfnemjjaaGreat
open Go Go.RowKit

theorem infoMoveM : (Tryz.prog.info? 88).map (fun i => (i.zero, i.size, i.bytes)) = some (some (.agg #[.bool false, .string ByteArray.empty]), 2, 24) := by kernel_rfl
theorem infoMoveD : ∃ i, Tryz.prog.info? 88 = some i ∧ i.zero = some (.agg #[.bool false, .string ByteArray.empty]) ∧ i.size = 2 ∧ i.bytes = 24 := by
  have := infoMoveM
  cases h : Tryz.prog.info? 88 with
  | none => rw [h] at this; simp at this
  | some i => rw [h] at this; exact ⟨i, rfl, by simpa using this⟩
/-- Cells of rows that lie in memory, to be copied. -/
theorem flat_src {P : Nat → Prop} {W : World} {a : Option Addr} {m cap n : Nat} {rs : List (List Value)} (h : FlatAt P W (.slice a m cap) n rs) (hn : ∀ r, r ∈ rs → r.length = n) : 0 < m → ∃ ad, a = some ad ∧ ∀ j u, rs.flatten[j]? = some u → W.cell? (ad.add j) = some u := by
  obtain ⟨a', cap', e, -, hc⟩ := h
  simp only [Value.slice.injEq] at e
  obtain ⟨rfl, hm, -⟩ := e
  intro h0
  obtain ⟨b, o, rfl, -, -⟩ := hc 0 (by omega)
  refine ⟨_, rfl, fun j u hj => ?_⟩
  have hjl := (List.getElem?_eq_some_iff.1 hj).1
  rw [flat_len rs hn] at hjl
  rcases Nat.eq_zero_or_pos n with hn0 | hn0
  · subst hn0; omega
  have hi : j / n < rs.length := (Nat.div_lt_iff_lt_mul hn0).2 hjl
  obtain ⟨b', o', e3, -, hcell⟩ := hc (j / n) hi
  simp only [Option.some.injEq, Addr.mk.injEq, and_true] at e3
  obtain ⟨rfl, rfl⟩ := e3
  have h1 := flat_get rs hn (j / n) hi (j % n) (Nat.mod_lt _ hn0)
  have hdm : j / n * n + j % n = j := by rw [Nat.mul_comm]; exact Nat.div_add_mod j n
  rw [hdm] at h1
  rw [h1] at hj
  rw [Addr.add_lit]
  have h2 := hcell (j % n) (Nat.mod_lt _ hn0)
  rw [Nat.add_assoc, hdm] at h2
  rw [h2]; exact hj
/-- A copy of rows, onto an empty row, in a region that draws. -/
theorem run_copyD {P : Program} (w : World) (t ty : TypeId) (base : Nat) (e : TypeId) (i : TypeInfo) (z : Value) (size bytes : Nat) (h1 : P.underlying t = some (.slice e)) (h2 : P.info? e = some i) (h3 : i.zero = some z) (h4 : i.size = size) (h5 : i.bytes = bytes) (h6 : z.cells.size = size) (h7 : 0 < size)
    (g0 : Nat) (hown : w.ownsRow base e size (.slice (some ⟨g0, 0, none⟩) 0 0) 0 [])
    (ax : Option Addr) (m c : Nat) (xs : List Value) (hn : xs.length = m * size) (hc : 0 < m → ∃ ad, ax = some ad ∧ ∀ j u, xs[j]? = some u → w.cell? (ad.add j) = some u) (h1c : ∀ u ∈ xs, u.oneCell' = true)
    (b1 : m ≤ maxLen) (b2 : m * bytes ≤ 140737488355328) (hbase : base ≤ w.heap.size) :
    ∃ g cap w', (Builtin.append_ #[t, t] ty #[.slice (some ⟨g0, 0, none⟩) 0 0, .slice ax m c]).run P w = .ok (.slice (some ⟨g, 0, none⟩) m cap) w' ∧ w'.ownsRow base e size (.slice (some ⟨g, 0, none⟩) m cap) m xs ∧ w.grownBy w' (some g0) := by
  rcases Nat.eq_zero_or_pos m with h0 | h0
  · subst h0
    have hxs : xs = [] := List.eq_nil_of_length_eq_zero (by rw [hn]; omega)
    subst hxs
    refine ⟨g0, 0, w, ?_, hown, World.grownBy.refl w _⟩
    cases ax with
    | none => simp [Builtin.append_, run_underlying h1, sizeOf, typeInfo, h2, Builtin.lenOf, Builtin.firstCells, go_sem]
    | some ad => simp [Builtin.append_, run_underlying h1, sizeOf, typeInfo, h2, Builtin.lenOf, Builtin.firstCells, go_sem]
  · obtain ⟨ad, rfl, hcc⟩ := hc h0
    obtain ⟨g, cap, w', hr, ho, hg, -, -⟩ := run_append_lies (P := P) w t ty base e i z size bytes h1 h2 h3 h4 h5 h6 h7 (.slice (some ⟨g0, 0, none⟩) 0 0) 0 [] hown ad m c xs hn hcc h1c h0 (by omega) (by rw [Nat.zero_add]; exact b2) hbase w.heap.size rfl
    rw [Nat.zero_add, List.nil_append] at ho
    rw [Nat.zero_add] at hr
    exact ⟨g, cap, w', hr, ho, hg⟩
end Go.Proofs.YtgdiankfnemjjaaGreat

/- A region that draws its order, by an invariant over what is done already: no program. No conditions. -/

namespace Go.Proofs.YtgdiankfnemjjaaGreat
open Go Go.RowKit

theorem count_set {l : List Bool} {i : Nat} (h : l[i]? = some false) : (l.set i true).count false + 1 = l.count false := by
  induction l generalizing i with
  | nil => simp at h
  | cons b r ih =>
    cases i with
    | zero =>
      simp at h
      subst h
      simp
    | succ i =>
      have := ih (i := i) (by simpa using h)
      cases b <;> simp <;> omega
theorem ready_false {md : Region.Mode} {ops : Array Oper} {l : Array Bool} {i : Nat} (h : i ∈ Region.ready md ops l) : l.toList[i]? = some false := by
  unfold Region.ready at h
  rw [List.mem_filter] at h
  have h2 := h.2
  simp only [Bool.and_eq_true, Bool.not_eq_true'] at h2
  have h3 := h2.1
  rw [Array.getD_eq_getD_getElem?] at h3
  cases e : l[i]? with
  | none => rw [e] at h3; simp at h3
  | some b => rw [e] at h3; simp at h3; subst h3; simpa using e
theorem wpAny_inv {P : Program} {md : Region.Mode} {ops : Array Oper} {Q : Exit → Act → World → Prop} (Inv : Array Bool → Act → World → Prop)
    (hend : ∀ l a w, Inv l a w → Region.ready md ops l = [] → Q .normal a w)
    (hstep : ∀ l a w i, Inv l a w → i ∈ Region.ready md ops l → wpOp P ops Q i (fun a' w' => Inv (l.setIfInBounds i true) a' w') a w) :
    ∀ (fuel : Nat) (l : Array Bool) (a : Act) (w : World), Inv l a w → l.toList.count false ≤ fuel → wpAny P md ops Q fuel l a w
  | 0, l, a, w, h, hc => by
    have hr : Region.ready md ops l = [] := by
      cases e : Region.ready md ops l with
      | nil => rfl
      | cons i r =>
        have h1 := ready_false (md := md) (ops := ops) (l := l) (i := i) (by rw [e]; simp)
        have h2 := count_set h1
        omega
    exact ⟨hr, hend l a w h hr⟩
  | fuel + 1, l, a, w, h, hc => by
    refine ⟨fun hr => hend l a w h hr, fun i hi => ?_⟩
    refine wpOp_mono (fun a' w' h' => wpAny_inv Inv hend hstep fuel _ a' w' h' ?_) (hstep l a w i h hi)
    have h1 := count_set (ready_false hi)
    rw [Array.toList_setIfInBounds]
    omega
/-- A region, by an invariant. -/
theorem wp_region_inv {P : Program} {ops : Array Oper} {Q : Exit → Act → World → Prop} {id : Nat} {a : Act} {w : World} (hm : P.follows .mixedOrders = true) (Inv : Array Bool → Act → World → Prop)
    (h0 : Inv (Array.replicate ops.size false) a w.drew)
    (hend : ∀ l a w, Inv l a w → Region.ready .any ops l = [] → Q .normal a w)
    (hstep : ∀ l a w i, Inv l a w → i ∈ Region.ready .any ops l → wpOp P ops Q i (fun a' w' => Inv (l.setIfInBounds i true) a' w') a w) : (Code.region id ops true).wp P Q a w :=
  wp_region_any hm (wpAny_inv Inv hend hstep ops.size _ a _ h0 (by simp))
end Go.Proofs.YtgdiankfnemjjaaGreat
