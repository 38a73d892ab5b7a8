/- The walks of the program's copyOf of a file and of a move. The strings have at most 2^40 bytes. -/
import Derived.Test.YtgdiankfnemjjaaGreatPart07
import Derived.Test.YtgdiankfnemjjaaGreatPart00
import Derived.Deep.RegionHeld3
import Derived.Handy
import Derived.Test.YtgdiankfnemjjaaGreatRows
import Derived.Laws.CopyOwn
import Derived.WalkKit
import Derived.Test.YtgdiankfnemjjaaGreatPart08
import Derived.Test.YtgdiankfnemjjaaGreatPart17
import Derived.Test.YtgdiankfnemjjaaGreatPart14
import Derived.Test.YtgdiankfnemjjaaGreatPart31
import Derived.Test.YtgdiankfnemjjaaGreatPart18
import Derived.Deep.RegionLaw
namespace Go.Proofs.YtgdiankfnemjjaaGreat
open Go Go.RowKit

/-- What stands while a file is copied: its box, the answer's box. -/
structure CfSt (w : World) (x y z : Value) (W : World) : Prop where
  below : Below w.heap.size w W
  box : W.rowIs w.heap.size 84 3 (row3 x y z)
  out : W.rowIs (w.heap.size + 1) 84 3 (row3 (.string ByteArray.empty) (.string ByteArray.empty) (.int .i64 0))
theorem CfSt.on {w W W' : World} {x y z : Value} (h : CfSt w x y z W) (hb : Below W.heap.size W W') : CfSt w x y z W' :=
  ⟨h.below.trans (hb.mono h.below.size), h.box.of_block (hb.block _ h.box.lt), h.out.of_block (hb.block _ h.out.lt)⟩
theorem CfSt.drew {w W : World} {x y z : Value} (h : CfSt w x y z W) : CfSt w x y z W.drew := h.on (Below.refl _ _).drew

theorem CfSt.c {w W : World} {x y : ByteArray} {z : Int} (h : CfSt w (.string x) (.string y) (.int .i64 z) W) : W.cell? ⟨w.heap.size, 0, none⟩ = some (.string x) ∧ W.cell? ⟨w.heap.size, 1, none⟩ = some (.string y) ∧ W.cell? ⟨w.heap.size, 2, none⟩ = some (.int .i64 z) ∧ W.cell? ⟨w.heap.size + 1, 0, none⟩ = some (.string ByteArray.empty) ∧ W.cell? ⟨w.heap.size + 1, 1, none⟩ = some (.string ByteArray.empty) ∧ W.cell? ⟨w.heap.size + 1, 2, none⟩ = some (.int .i64 0) ∧ W.frozen? ⟨w.heap.size + 1, 0, none⟩ = false ∧ W.frozen? ⟨w.heap.size + 1, 1, none⟩ = false ∧ W.frozen? ⟨w.heap.size + 1, 2, none⟩ = false :=
  ⟨h.box.cell (i := 0) (by omega), h.box.cell (i := 1) (by omega), h.box.cell (i := 2) (by omega), h.out.cell (i := 0) (by omega), h.out.cell (i := 1) (by omega), h.out.cell (i := 2) (by omega), h.out.frozen 0, h.out.frozen 1, h.out.frozen 2⟩

set_option maxRecDepth 100000 in
set_option maxHeartbeats 6400000 in
theorem fileCopy_any (x y : ByteArray) (z : Int) (w : World) (hx : x.size ≤ 1099511627776) (hy : y.size ≤ 1099511627776) :
    Calls Tryz.prog 118 #[.agg #[.string x, .string y, .int .i64 z]] w fun e w' => e = .returned (.agg #[.string x, .string y, .int .i64 z]) ∧ Below w.heap.size w w' := by
  obtain ⟨W0, hW0⟩ : ∃ W0, (w.alloc (.cells #[.string x, .string y, .int .i64 z] 84)).alloc (.cells #[.string ByteArray.empty, .string ByteArray.empty, .int .i64 0] 84) = W0 := ⟨_, rfl⟩
  have hst : CfSt w (.string x) (.string y) (.int .i64 z) W0 := by
    rw [← hW0]
    have q := row3_alloc (w.alloc (.cells #[.string x, .string y, .int .i64 z] 84)) (.string ByteArray.empty) (.string ByteArray.empty) (.int .i64 0) 84
    rw [World.size_alloc] at q
    exact ⟨((Below.refl _ w).alloc (Nat.le_refl _) _).alloc (by simp) _, (row3_alloc w _ _ _ _).alloc _, q⟩
  have HCL : Hid (∀ (s : ByteArray) (W : World), s.size ≤ 1099511627776 → CfSt w (.string x) (.string y) (.int .i64 z) W → Calls Tryz.prog 74 #[.string s] W fun e w' => e = .returned (.string s) ∧ Hid (CfSt w (.string x) (.string y) (.int .i64 z) w') ∧ w'.cell? ⟨w.heap.size, 0, none⟩ = some (.string x) ∧ w'.cell? ⟨w.heap.size, 1, none⟩ = some (.string y) ∧ w'.cell? ⟨w.heap.size, 2, none⟩ = some (.int .i64 z) ∧ w'.cell? ⟨w.heap.size + 1, 0, none⟩ = some (.string ByteArray.empty) ∧ w'.cell? ⟨w.heap.size + 1, 1, none⟩ = some (.string ByteArray.empty) ∧ w'.cell? ⟨w.heap.size + 1, 2, none⟩ = some (.int .i64 0) ∧ w'.frozen? ⟨w.heap.size + 1, 0, none⟩ = false ∧ w'.frozen? ⟨w.heap.size + 1, 1, none⟩ = false ∧ w'.frozen? ⟨w.heap.size + 1, 2, none⟩ = false) := fun s W hs hW =>
    (clone_any s W (by omega)).mono fun e w' ⟨h1, h2⟩ => ⟨h1, hide (hW.on h2), (hW.on h2).c⟩
  obtain ⟨f0, f1, f2, f3, f4, f5, f6, f7, f8⟩ := hst.c
  have HST := hide hst; have HSTD := hide hst.drew
  clear hst
  subst hW0
  go_enter Tryz.func118, Tryz.ntmps118
  go_wp2_with fail
  go_region_held3 (fun W => W.cell? ⟨w.heap.size, 0, none⟩ = some (.string x) ∧ W.cell? ⟨w.heap.size, 1, none⟩ = some (.string y) ∧ W.cell? ⟨w.heap.size, 2, none⟩ = some (.int .i64 z)) (first | exact ⟨z0, z1, z2⟩ | exact ⟨f0, f1, f2⟩ | go_keep)
    (first | (go_at_call 74; refine (unhide HCL _ _ (by assumption) (by first | exact unhide HSA | exact (unhide HSA).drew | exact unhide HSTD | exact unhide HST)).mono ?_; rintro e w2 ⟨rfl, HSA, z0, z1, z2, z3, z4, z5, z6, z7, z8⟩))
  all_goals
    go_wp2_with fail
    refine bodyPost_ret (v := .agg #[.string x, .string y, .int .i64 z]) (by simp [results, Tryz.results118, go_sem, z3, z4, z5]) rfl ⟨rfl, ?_⟩
    exact (((unhide HSA).below.setCell (by simp) _).setCell (by simp) _).setCell (by simp) _

/-- The same for a move. -/
structure CmSt (w : World) (x y : Value) (W : World) : Prop where
  below : Below w.heap.size w W
  box : W.rowIs w.heap.size 88 2 (fun i => if i = 0 then x else y)
  out : W.rowIs (w.heap.size + 1) 88 2 (fun i => if i = 0 then .bool false else .string ByteArray.empty)
theorem CmSt.on {w W W' : World} {x y : Value} (h : CmSt w x y W) (hb : Below W.heap.size W W') : CmSt w x y W' :=
  ⟨h.below.trans (hb.mono h.below.size), h.box.of_block (hb.block _ h.box.lt), h.out.of_block (hb.block _ h.out.lt)⟩
theorem CmSt.drew {w W : World} {x y : Value} (h : CmSt w x y W) : CmSt w x y W.drew := h.on (Below.refl _ _).drew
theorem CmSt.c {w W : World} {x y : Value} (h : CmSt w x y W) : W.cell? ⟨w.heap.size, 0, none⟩ = some x ∧ W.cell? ⟨w.heap.size, 1, none⟩ = some y ∧ W.cell? ⟨w.heap.size + 1, 0, none⟩ = some (.bool false) ∧ W.cell? ⟨w.heap.size + 1, 1, none⟩ = some (.string ByteArray.empty) ∧ W.frozen? ⟨w.heap.size + 1, 0, none⟩ = false ∧ W.frozen? ⟨w.heap.size + 1, 1, none⟩ = false :=
  ⟨h.box.cell (i := 0) (by omega), h.box.cell (i := 1) (by omega), h.out.cell (i := 0) (by omega), h.out.cell (i := 1) (by omega), h.out.frozen 0, h.out.frozen 1⟩
theorem row2_new (w : World) (x y : Value) (t : TypeId) : (w.alloc (.cells #[x, y] t)).rowIs w.heap.size t 2 (fun i => if i = 0 then x else y) := by
  refine ⟨#[x, y], heap_alloc_new w _, rfl, fun i hi => ?_⟩
  match i, hi with
  | 0, _ => rfl
  | 1, _ => rfl

set_option maxRecDepth 100000 in
set_option maxHeartbeats 6400000 in
theorem moveCopy_any (g : Bool) (y : ByteArray) (w : World) (hy : y.size ≤ 1099511627776) :
    Calls Tryz.prog 119 #[.agg #[.bool g, .string y]] w fun e w' => e = .returned (.agg #[.bool g, .string y]) ∧ Below w.heap.size w w' := by
  obtain ⟨W0, hW0⟩ : ∃ W0, (w.alloc (.cells #[.bool g, .string y] 88)).alloc (.cells #[.bool false, .string ByteArray.empty] 88) = W0 := ⟨_, rfl⟩
  have hst : CmSt w (.bool g) (.string y) W0 := by
    rw [← hW0]
    have q := row2_new (w.alloc (.cells #[.bool g, .string y] 88)) (.bool false) (.string ByteArray.empty) 88
    rw [World.size_alloc] at q
    exact ⟨((Below.refl _ w).alloc (Nat.le_refl _) _).alloc (by simp) _, (row2_new w _ _ _).alloc _, q⟩
  have HCL : Hid (∀ (s : ByteArray) (W : World), s.size ≤ 1099511627776 → CmSt w (.bool g) (.string y) W → Calls Tryz.prog 74 #[.string s] W fun e w' => e = .returned (.string s) ∧ Hid (CmSt w (.bool g) (.string y) w') ∧ w'.cell? ⟨w.heap.size, 0, none⟩ = some (.bool g) ∧ w'.cell? ⟨w.heap.size, 1, none⟩ = some (.string y) ∧ w'.cell? ⟨w.heap.size + 1, 0, none⟩ = some (.bool false) ∧ w'.cell? ⟨w.heap.size + 1, 1, none⟩ = some (.string ByteArray.empty) ∧ w'.frozen? ⟨w.heap.size + 1, 0, none⟩ = false ∧ w'.frozen? ⟨w.heap.size + 1, 1, none⟩ = false) := fun s W hs hW =>
    (clone_any s W (by omega)).mono fun e w' ⟨h1, h2⟩ => ⟨h1, hide (hW.on h2), (hW.on h2).c⟩
  obtain ⟨f0, f1, f3, f4, f6, f7⟩ := hst.c
  have HST := hide hst; have HSTD := hide hst.drew
  clear hst
  subst hW0
  go_enter Tryz.func119, Tryz.ntmps119
  go_wp2_with fail
  go_region_held3 (fun W => W.cell? ⟨w.heap.size, 0, none⟩ = some (.bool g) ∧ W.cell? ⟨w.heap.size, 1, none⟩ = some (.string y)) (first | exact ⟨z0, z1⟩ | exact ⟨f0, f1⟩ | go_keep)
    (first | (go_at_call 74; refine (unhide HCL _ _ (by assumption) (by first | exact unhide HSA | exact (unhide HSA).drew | exact unhide HSTD | exact unhide HST)).mono ?_; rintro e w2 ⟨rfl, HSA, z0, z1, z3, z4, z6, z7⟩))
  all_goals
    go_wp2_with fail
    refine bodyPost_ret (v := .agg #[.bool g, .string y]) (by simp [results, Tryz.results119, go_sem, z3, z4]) rfl ⟨rfl, ?_⟩
    exact ((unhide HSA).below.setCell (by simp) _).setCell (by simp) _
end Go.Proofs.YtgdiankfnemjjaaGreat

/- copy onto a whole row of the call's own, the elements being of several cells. No program walked, no conditions. -/

namespace Go.Proofs.YtgdiankfnemjjaaGreat
open Go Go.RowKit

theorem run_copy_whole {P : Program} (w : World) (T ty elem : TypeId) (i : TypeInfo) (g m cap : Nat) (a : Addr) (sCap : Nat) (cur : Array Value) (t : TypeId) (cs : List Value)
    (hu : P.underlying T = some (.slice elem)) (hi : P.info? elem = some i) (hg : w.heap[g]? = some (.cells cur t (0, 0))) (hn : cs.length = m * i.size) (hc : cur.size = m * i.size)
    (hsrc : ∀ j v, cs[j]? = some v → w.cell? (a.add j) = some v) (h1 : ∀ v ∈ cs, v.oneCell' = true) :
    (Builtin.copy_ #[T, T] ty #[.slice (some ⟨g, 0, none⟩) m cap, .slice (some a) m sCap]).run P w = .ok (goInt m) (w.setRow g cs.toArray) := by
  have hl := run_loadCells_list (P := P) w a cs hsrc
  have hst := run_storeCells_at P g 0 t cs 0 cur w hg (by omega) h1
  have he : (cur.toList.take (0 + 0) ++ cs ++ cur.toList.drop (0 + 0 + cs.length)) = cs := by
    rw [List.drop_eq_nil_of_le (by simp; omega)]; simp
  rw [he] at hst
  rw [hn] at hl
  simp [Builtin.copy_, run_underlying hu, Builtin.lenOf, Builtin.firstCells, sizeOf, typeInfo, hi, hl, hst]

/-- A store of what stands there leaves the world as it was. -/
theorem setCell_idem {w : World} {g i : Nat} {cur : Array Value} {t : TypeId} {fr : Nat × Nat} {v : Value} (hg : w.heap[g]? = some (.cells cur t fr)) (h : cur[i]? = some v) : w.setCell ⟨g, i, none⟩ v = w := by
  rw [setCell_eq_setRow w g i cur t fr v hg]
  have hc : cur.setIfInBounds i v = cur := by
    obtain ⟨hlt, hv⟩ := Array.getElem?_eq_some_iff.1 h
    subst hv
    simp [Array.setIfInBounds, hlt]
  rw [hc]
  exact setRow_self w g cur t fr hg
end Go.Proofs.YtgdiankfnemjjaaGreat

/- The walks of the program's copies of files and of moves: the same, in a row of the call's own. At most 1000, whose strings have at most 2^40 bytes. -/

namespace Go.Proofs.YtgdiankfnemjjaaGreat
open Go Go.RowKit

/-- Rows in a block of the call's own, by the block. -/
theorem own_of_block {w : World} {base g n size : Nat} {t : TypeId} {xs : List Value} (hg : w.heap[g]? = some (.cells xs.toArray t (0, 0))) (hb : base ≤ g) (hl : xs.length = n * size) (hm : n ≤ maxLen) : w.ownsRow base t size (.slice (some ⟨g, 0, none⟩) n n) n xs :=
  ⟨hl, Or.inr ⟨g, n, xs.toArray, rfl, hb, hg, Nat.le_refl _, hm, by simpa using hl, by rw [← hl]; simp⟩⟩
set_option maxRecDepth 100000 in
set_option maxHeartbeats 6400000 in
theorem copiesF_any (fs : List Df) (P : Nat → Prop) (a : Option Addr) (cap : Nat) (w : World) (hv : FsAt P w (.slice a fs.length cap) fs) (hl : fs.length ≤ 1000) (hs : ∀ f, f ∈ fs → f.name.size ≤ 1099511627776 ∧ f.data.size ≤ 1099511627776) :
    Calls Tryz.prog 62 #[.slice a fs.length cap] w fun e w' => ∃ a' cap', e = .returned (.slice a' fs.length cap') ∧ w'.ownsRow w.heap.size 84 3 (.slice a' fs.length cap') fs.length (fs.map Df.cs).flatten ∧ Below w.heap.size w w' := by
  by_cases h0 : fs.length = 0
  · have hnil : fs = [] := List.eq_nil_of_length_eq_zero h0
    subst hnil
    clear hv hs
    go_enter Tryz.func62, Tryz.ntmps62
    go_wp2_with fail
    go_ret
    exact ⟨none, 0, rfl, World.ownsRow_nil _ _ _ _, Below.refl _ _⟩
  have hcs : ∀ r, r ∈ fs.map Df.cs → r.length = 3 := fun r hr => by obtain ⟨f, -, rfl⟩ := List.mem_map.1 hr; rfl
  obtain ⟨ad, rfl, hsrc⟩ := flat_src hv.1 hcs (by omega)
  have hfl := flat_len (fs.map Df.cs) hcs
  rw [List.length_map] at hfl
  have h1c : ∀ u ∈ (fs.map Df.cs).flatten, u.oneCell' = true := fun u hu => by
    obtain ⟨r, hr, hu⟩ := List.mem_flatten.1 hu
    obtain ⟨f, -, rfl⟩ := List.mem_map.1 hr
    simp only [Df.cs, List.mem_cons, List.not_mem_nil, or_false] at hu
    rcases hu with rfl | rfl | rfl <;> rfl
  obtain ⟨i0, hi, hz0, hz1, hz2⟩ := infoFileD
  have hmk := run_make_file fs.length (by omega)
  have HSRC := hide (fun o => show ∀ j u, (fs.map Df.cs).flatten[j]? = some u → (w.alloc o).cell? (ad.add j) = some u from fun j u hj => by
    have hc := hsrc j u hj
    rw [World.cell?_of_block (w := w) (heap_alloc_old w o (World.block_lt_of_cell? w _ hc))]; exact hc)
  have HOK := hide hv.2; have HSZ := hide hs; have HCS := hide hcs
  have hcp := run_copy_whole (P := Tryz.prog) (w.alloc (.cells (madeCells zF (fs.length * 3)) 84)) 34 3 84 i0 w.heap.size fs.length fs.length ad cap (madeCells zF (fs.length * 3)) 84 (fs.map Df.cs).flatten Tryz.underlying34 hi (heap_alloc_new w _) (by rw [hz1]; exact hfl) (by rw [size_madeCells, hz1]) (unhide HSRC _) h1c
  obtain ⟨W2, hW2⟩ : ∃ W2, (w.alloc (.cells (madeCells zF (fs.length * 3)) 84)).setRow w.heap.size (fs.map Df.cs).flatten.toArray = W2 := ⟨_, rfl⟩
  have hg2 : W2.heap[w.heap.size]? = some (.cells (fs.map Df.cs).flatten.toArray 84 (0, 0)) := by rw [← hW2]; exact setRow_heap _ w.heap.size (madeCells zF (fs.length * 3)) _ _ _ (heap_alloc_new w _)
  have hb2 : Below w.heap.size w W2 := by rw [← hW2]; exact below_setRow ((Below.refl _ w).alloc (Nat.le_refl _) _) (Nat.le_refl _) _
  rw [hW2] at hcp
  have HG2 := hide hg2
  have hq : (((fs.length : Nat) : Int) == 0) = false := by
    rw [beq_eq_false_iff_ne]; omega
  have hs2 : w.heap.size < W2.heap.size := (Array.getElem?_eq_some_iff.1 hg2).1
  have HB2 := hide hb2
  clear hv hsrc hs hcs h1c hi hz0 hz2 hfl hz1 hb2 hg2 hW2 HSRC
  go_enter Tryz.func62, Tryz.ntmps62
  go_wp2_with fail
  clear hcp hmk
  go_loopw [16] (fun i wr => ∃ (k : Nat), k ≤ fs.length ∧ i = .int .i64 k ∧ Hid (wr.heap[w.heap.size]? = some (.cells (fs.map Df.cs).flatten.toArray 84 (0, 0))) ∧ Hid (Below w.heap.size w wr)) (fun i _ => fs.length - (intOf i).toNat)
  case atStart => exact ⟨0, Nat.zero_le _, rfl, HG2, HB2⟩
  case round =>
    clear HG2 HB2
    obtain ⟨k, hk, rfl, HG, HB⟩ := hrel
    by_cases hlt : k < fs.length
    · have hc : ∀ j, j < 3 → (fs.map Df.cs).flatten[k * 3 + j]? = some (fs[k].cs.getD j undef) := fun j hj => by
        have := flat_get (fs.map Df.cs) (unhide HCS) k (by rw [List.length_map]; exact hlt) j hj
        rw [List.getElem_map] at this
        exact this
      have hcw : ∀ (V : World), V.heap[w.heap.size]? = some (.cells (fs.map Df.cs).flatten.toArray 84 (0, 0)) → ∀ j, j < 3 → V.cell? ⟨w.heap.size, k * 3 + j, none⟩ = some (fs[k].cs.getD j undef) ∧ V.frozen? ⟨w.heap.size, k * 3 + j, none⟩ = false ∧ V.setCell ⟨w.heap.size, k * 3 + j, none⟩ (fs[k].cs.getD j undef) = V := fun V hV j hj => by
        have h1 := hc j hj
        refine ⟨by simp only [World.cell?, hV]; simpa using h1, by simp [World.frozen?, hV], setCell_idem hV (by simpa using h1)⟩
      have hz := unhide HSZ fs[k] (List.getElem_mem hlt)
      have e0 := (hcw wr HG.out 0 (by omega)).1; have e1 := (hcw wr HG.out 1 (by omega)).1; have e2 := (hcw wr HG.out 2 (by omega)).1
      have HCW := hide hcw
      clear hc hcw
      simp only [Df.cs, List.getD_cons_zero, List.getD_cons_succ, Nat.add_zero] at e0 e1 e2
      generalize hfk : fs[k] = x at *
      have HFC := hide (fileCopy_any x.name x.data x.kept wr hz.1 hz.2)
      clear hz
      go_wp2_with (first
        | (refine (unhide HFC).mono ?_; rintro e w3 ⟨rfl, hb3⟩
           have hg3 := (hb3.block w.heap.size (Array.getElem?_eq_some_iff.1 HG.out).1).trans HG.out
           have c0 := unhide HCW w3 hg3 0 (by omega); have c1 := unhide HCW w3 hg3 1 (by omega); have c2 := unhide HCW w3 hg3 2 (by omega)
           simp only [Df.cs, List.getD_cons_zero, List.getD_cons_succ, Nat.add_zero] at c0 c1 c2
           obtain ⟨c0a, c0b, c0c⟩ := c0; obtain ⟨c1a, c1b, c1c⟩ := c1; obtain ⟨c2a, c2b, c2c⟩ := c2
           have HG3 := hide hg3; have HB3 := hide (HB.out.trans (hb3.mono HB.out.size)); clear hg3 hb3))
      go_roundw
      case rel => exact ⟨k + 1, by omega, by go_num, HG3, HB3⟩
      case measure => simp [intOf]; omega
    · go_wp2_with fail
      go_ret
      exact ⟨_, _, rfl, own_of_block HG.out (Nat.le_refl _) (by rw [flat_len _ (unhide HCS), List.length_map]) (by unfold maxLen; omega), HB.out⟩

set_option maxRecDepth 100000 in
set_option maxHeartbeats 6400000 in
theorem copiesM_any (fs : List Dm) (P : Nat → Prop) (a : Option Addr) (cap : Nat) (w : World) (hv : MsAt P w (.slice a fs.length cap) fs) (hl : fs.length ≤ 1000) (hs : ∀ f, f ∈ fs → f.name.size ≤ 1099511627776) :
    Calls Tryz.prog 64 #[.slice a fs.length cap] w fun e w' => ∃ a' cap', e = .returned (.slice a' fs.length cap') ∧ w'.ownsRow w.heap.size 88 2 (.slice a' fs.length cap') fs.length (fs.map Dm.cs).flatten ∧ Below w.heap.size w w' := by
  by_cases h0 : fs.length = 0
  · have hnil : fs = [] := List.eq_nil_of_length_eq_zero h0
    subst hnil
    clear hv hs
    go_enter Tryz.func64, Tryz.ntmps64
    go_wp2_with fail
    go_ret
    exact ⟨none, 0, rfl, World.ownsRow_nil _ _ _ _, Below.refl _ _⟩
  have hcs : ∀ r, r ∈ fs.map Dm.cs → r.length = 2 := fun r hr => by obtain ⟨f, -, rfl⟩ := List.mem_map.1 hr; rfl
  obtain ⟨ad, rfl, hsrc⟩ := flat_src hv.1 hcs (by omega)
  have hfl := flat_len (fs.map Dm.cs) hcs
  rw [List.length_map] at hfl
  have h1c : ∀ u ∈ (fs.map Dm.cs).flatten, u.oneCell' = true := fun u hu => by
    obtain ⟨r, hr, hu⟩ := List.mem_flatten.1 hu
    obtain ⟨f, -, rfl⟩ := List.mem_map.1 hr
    simp only [Dm.cs, List.mem_cons, List.not_mem_nil, or_false] at hu
    rcases hu with rfl | rfl <;> rfl
  obtain ⟨i0, hi, hz0, hz1, hz2⟩ := infoMoveD
  have hmk := run_make_move fs.length (by omega)
  have HSRC := hide (fun o => show ∀ j u, (fs.map Dm.cs).flatten[j]? = some u → (w.alloc o).cell? (ad.add j) = some u from fun j u hj => by
    have hc := hsrc j u hj
    rw [World.cell?_of_block (w := w) (heap_alloc_old w o (World.block_lt_of_cell? w _ hc))]; exact hc)
  have HOK := hide hv.2; have HSZ := hide hs; have HCS := hide hcs
  have hcp := run_copy_whole (P := Tryz.prog) (w.alloc (.cells (madeCells zM (fs.length * 2)) 88)) 35 3 88 i0 w.heap.size fs.length fs.length ad cap (madeCells zM (fs.length * 2)) 88 (fs.map Dm.cs).flatten Tryz.underlying35 hi (heap_alloc_new w _) (by rw [hz1]; exact hfl) (by rw [size_madeCells, hz1]) (unhide HSRC _) h1c
  obtain ⟨W2, hW2⟩ : ∃ W2, (w.alloc (.cells (madeCells zM (fs.length * 2)) 88)).setRow w.heap.size (fs.map Dm.cs).flatten.toArray = W2 := ⟨_, rfl⟩
  have hg2 : W2.heap[w.heap.size]? = some (.cells (fs.map Dm.cs).flatten.toArray 88 (0, 0)) := by rw [← hW2]; exact setRow_heap _ w.heap.size (madeCells zM (fs.length * 2)) _ _ _ (heap_alloc_new w _)
  have hb2 : Below w.heap.size w W2 := by rw [← hW2]; exact below_setRow ((Below.refl _ w).alloc (Nat.le_refl _) _) (Nat.le_refl _) _
  rw [hW2] at hcp
  have HG2 := hide hg2
  have hq : (((fs.length : Nat) : Int) == 0) = false := by
    rw [beq_eq_false_iff_ne]; omega
  have hs2 : w.heap.size < W2.heap.size := (Array.getElem?_eq_some_iff.1 hg2).1
  have HB2 := hide hb2
  clear hv hsrc hs hcs h1c hi hz0 hz2 hfl hz1 hb2 hg2 hW2 HSRC
  go_enter Tryz.func64, Tryz.ntmps64
  go_wp2_with fail
  clear hcp hmk
  go_loopw [16] (fun i wr => ∃ (k : Nat), k ≤ fs.length ∧ i = .int .i64 k ∧ Hid (wr.heap[w.heap.size]? = some (.cells (fs.map Dm.cs).flatten.toArray 88 (0, 0))) ∧ Hid (Below w.heap.size w wr)) (fun i _ => fs.length - (intOf i).toNat)
  case atStart => exact ⟨0, Nat.zero_le _, rfl, HG2, HB2⟩
  case round =>
    clear HG2 HB2
    obtain ⟨k, hk, rfl, HG, HB⟩ := hrel
    by_cases hlt : k < fs.length
    · have hc : ∀ j, j < 2 → (fs.map Dm.cs).flatten[k * 2 + j]? = some (fs[k].cs.getD j undef) := fun j hj => by
        have := flat_get (fs.map Dm.cs) (unhide HCS) k (by rw [List.length_map]; exact hlt) j hj
        rw [List.getElem_map] at this
        exact this
      have hcw : ∀ (V : World), V.heap[w.heap.size]? = some (.cells (fs.map Dm.cs).flatten.toArray 88 (0, 0)) → ∀ j, j < 2 → V.cell? ⟨w.heap.size, k * 2 + j, none⟩ = some (fs[k].cs.getD j undef) ∧ V.frozen? ⟨w.heap.size, k * 2 + j, none⟩ = false ∧ V.setCell ⟨w.heap.size, k * 2 + j, none⟩ (fs[k].cs.getD j undef) = V := fun V hV j hj => by
        have h1 := hc j hj
        refine ⟨by simp only [World.cell?, hV]; simpa using h1, by simp [World.frozen?, hV], setCell_idem hV (by simpa using h1)⟩
      have hz := unhide HSZ fs[k] (List.getElem_mem hlt)
      have e0 := (hcw wr HG.out 0 (by omega)).1; have e1 := (hcw wr HG.out 1 (by omega)).1
      have HCW := hide hcw
      clear hc hcw
      simp only [Dm.cs, List.getD_cons_zero, List.getD_cons_succ, Nat.add_zero] at e0 e1
      generalize hfk : fs[k] = x at *
      have HFC := hide (moveCopy_any x.gone x.name wr hz)
      clear hz
      go_wp2_with (first
        | (refine (unhide HFC).mono ?_; rintro e w3 ⟨rfl, hb3⟩
           have hg3 := (hb3.block w.heap.size (Array.getElem?_eq_some_iff.1 HG.out).1).trans HG.out
           have c0 := unhide HCW w3 hg3 0 (by omega); have c1 := unhide HCW w3 hg3 1 (by omega)
           simp only [Dm.cs, List.getD_cons_zero, List.getD_cons_succ, Nat.add_zero] at c0 c1
           obtain ⟨c0a, c0b, c0c⟩ := c0; obtain ⟨c1a, c1b, c1c⟩ := c1
           have HG3 := hide hg3; have HB3 := hide (HB.out.trans (hb3.mono HB.out.size)); clear hg3 hb3))
      go_roundw
      case rel => exact ⟨k + 1, by omega, by go_num, HG3, HB3⟩
      case measure => simp [intOf]; omega
    · go_wp2_with fail
      go_ret
      exact ⟨_, _, rfl, own_of_block HG.out (Nat.le_refl _) (by rw [flat_len _ (unhide HCS), List.length_map]) (by unfold maxLen; omega), HB.out⟩
end Go.Proofs.YtgdiankfnemjjaaGreat

/- The walk of the program's copyDisk: the same disk, in memory of its own. At most 1000 of each, whose strings have at most 2^40 bytes. -/

namespace Go.Proofs.YtgdiankfnemjjaaGreat
open Go Go.RowKit

/-- What stands while a disk is copied: its box, the answer's box, the disk. -/
structure CdSt (w : World) (d : Dk) (c : C3) (W : World) : Prop where
  below : Below w.heap.size w W
  box : W.rowIs w.heap.size 37 3 (row3 c.c0 c.c1 c.c2)
  out : W.rowIs (w.heap.size + 1) 37 3 (row3 (.slice none 0 0) (.slice none 0 0) (.slice none 0 0))
  dk : DkAt (fun b => b < w.heap.size) W d c
theorem CdSt.on {w W W' : World} {d : Dk} {c : C3} (h : CdSt w d c W) (hb : Below W.heap.size W W') : CdSt w d c W' :=
  ⟨h.below.trans (hb.mono h.below.size), h.box.of_block (hb.block _ h.box.lt), h.out.of_block (hb.block _ h.out.lt), h.dk.carry (fun b hb' => hb.block b (Nat.lt_of_lt_of_le hb' h.below.size)) (fun _ h => h)⟩
theorem CdSt.drew {w W : World} {d : Dk} {c : C3} (h : CdSt w d c W) : CdSt w d c W.drew := h.on (Below.refl _ _).drew
def CdC (w : World) (c0 c1 c2 : Value) (W : World) : Prop := W.cell? ⟨w.heap.size, 0, none⟩ = some c0 ∧ W.cell? ⟨w.heap.size, 1, none⟩ = some c1 ∧ W.cell? ⟨w.heap.size, 2, none⟩ = some c2 ∧ W.cell? ⟨w.heap.size + 1, 0, none⟩ = some (.slice none 0 0) ∧ W.cell? ⟨w.heap.size + 1, 1, none⟩ = some (.slice none 0 0) ∧ W.cell? ⟨w.heap.size + 1, 2, none⟩ = some (.slice none 0 0) ∧ W.frozen? ⟨w.heap.size + 1, 0, none⟩ = false ∧ W.frozen? ⟨w.heap.size + 1, 1, none⟩ = false ∧ W.frozen? ⟨w.heap.size + 1, 2, none⟩ = false
theorem CdSt.c {w W : World} {d : Dk} {c : C3} (h : CdSt w d c W) : CdC w c.c0 c.c1 c.c2 W :=
  ⟨h.box.cell (i := 0) (by omega), h.box.cell (i := 1) (by omega), h.box.cell (i := 2) (by omega), h.out.cell (i := 0) (by omega), h.out.cell (i := 1) (by omega), h.out.cell (i := 2) (by omega), h.out.frozen 0, h.out.frozen 1, h.out.frozen 2⟩

theorem own_slice0 {w : World} {base : Nat} {e : TypeId} {size : Nat} {v : Value} {n : Nat} {xs : List Value} (h : w.ownsRow base e size v n xs) : ∃ a cap, v = .slice a n cap := by
  rcases h.2 with ⟨hv, h0⟩ | ⟨g, c, u, hv, _⟩
  · exact ⟨none, 0, by rw [hv, h0]⟩
  · exact ⟨_, _, hv⟩
theorem own_low {w : World} {base b : Nat} {e : TypeId} {size : Nat} {v : Value} {n : Nat} {xs : List Value} (h : w.ownsRow base e size v n xs) (hb : b ≤ base) : w.ownsRow b e size v n xs :=
  ⟨h.1, h.2.imp id fun ⟨g, c, u, h1, h2, h3⟩ => ⟨g, c, u, h1, Nat.le_trans hb h2, h3⟩⟩
set_option maxRecDepth 100000 in
set_option maxHeartbeats 6400000 in
theorem copyDisk_any (d : Dk) (P : Nat → Prop) (c : C3) (w : World) (hP : ∀ b, P b → b < w.heap.size) (hv : DkAt P w d c) (hl : d.files.length ≤ 1000 ∧ d.names.length ≤ 1000 ∧ d.moves.length ≤ 1000)
    (hs : (∀ f, f ∈ d.files → f.name.size ≤ 1099511627776 ∧ f.data.size ≤ 1099511627776) ∧ (∀ x, x ∈ d.names → x.size ≤ 1099511627776) ∧ (∀ f, f ∈ d.moves → f.name.size ≤ 1099511627776)) :
    Calls Tryz.prog 34 #[.agg #[c.c0, c.c1, c.c2]] w fun e w' => ∃ c' : C3, e = .returned (.agg #[c'.c0, c'.c1, c'.c2]) ∧ w'.ownsRow w.heap.size 84 3 c'.c0 d.files.length (d.files.map Df.cs).flatten ∧ w'.ownsRow w.heap.size 9 1 c'.c1 d.names.length (d.names.map Value.string) ∧ w'.ownsRow w.heap.size 88 2 c'.c2 d.moves.length (d.moves.map Dm.cs).flatten ∧ Below w.heap.size w w' := by
  obtain ⟨c0, c1, c2⟩ := c
  obtain ⟨a0, cap0, e0, -⟩ := hv.fs.open
  obtain ⟨a1, cap1, e1, -⟩ := id hv.ns
  obtain ⟨a2, cap2, e2, -⟩ := hv.ms.open
  simp only at e0 e1 e2
  subst e0 e1 e2
  obtain ⟨W0, hW0⟩ : ∃ W0, (w.alloc (.cells #[.slice a0 d.files.length cap0, .slice a1 d.names.length cap1, .slice a2 d.moves.length cap2] 37)).alloc (.cells #[.slice none 0 0, .slice none 0 0, .slice none 0 0] 37) = W0 := ⟨_, rfl⟩
  have hbw : Below w.heap.size w W0 := by rw [← hW0]; exact ((Below.refl _ w).alloc (Nat.le_refl _) _).alloc (by simp) _
  have hst : CdSt w d ⟨.slice a0 d.files.length cap0, .slice a1 d.names.length cap1, .slice a2 d.moves.length cap2⟩ W0 := by
    refine ⟨hbw, ?_, ?_, hv.carry (fun b hb => hbw.block b (hP b hb)) hP⟩
    · rw [← hW0]; exact (row3_alloc w _ _ _ _).alloc _
    · rw [← hW0]
      have q := row3_alloc (w.alloc (.cells #[.slice a0 d.files.length cap0, .slice a1 d.names.length cap1, .slice a2 d.moves.length cap2] 37)) (.slice none 0 0) (.slice none 0 0) (.slice none 0 0) 37
      rw [World.size_alloc] at q; exact q
  have HF : Hid (∀ W, CdSt w d ⟨.slice a0 d.files.length cap0, .slice a1 d.names.length cap1, .slice a2 d.moves.length cap2⟩ W → Calls Tryz.prog 62 #[.slice a0 d.files.length cap0] W fun e w' => ∃ a' cap', e = .returned (.slice a' d.files.length cap') ∧ Hid (w'.ownsRow W.heap.size 84 3 (.slice a' d.files.length cap') d.files.length (d.files.map Df.cs).flatten) ∧ Hid (Below W.heap.size W w')) := fun W hW =>
    copiesF_any d.files _ a0 cap0 W hW.dk.fs hl.1 hs.1
  have HN : Hid (∀ W, CdSt w d ⟨.slice a0 d.files.length cap0, .slice a1 d.names.length cap1, .slice a2 d.moves.length cap2⟩ W → Calls Tryz.prog 63 #[.slice a1 d.names.length cap1] W fun e w' => ∃ a' cap', e = .returned (.slice a' d.names.length cap') ∧ Hid (w'.ownsRow W.heap.size 9 1 (.slice a' d.names.length cap') d.names.length (d.names.map Value.string)) ∧ Hid (Below W.heap.size W w')) := fun W hW =>
    (copyNames_row _ d.names W (fun b hb => Nat.lt_of_lt_of_le hb hW.below.size) hW.dk.ns (by omega) hs.2.1).mono fun e w' ⟨v', h1, h2, h3⟩ => by
      obtain ⟨a', cap', e'⟩ := own_slice0 h2
      subst e'
      exact ⟨a', cap', h1, h2, h3⟩
  have HM : Hid (∀ W, CdSt w d ⟨.slice a0 d.files.length cap0, .slice a1 d.names.length cap1, .slice a2 d.moves.length cap2⟩ W → Calls Tryz.prog 64 #[.slice a2 d.moves.length cap2] W fun e w' => ∃ a' cap', e = .returned (.slice a' d.moves.length cap') ∧ Hid (w'.ownsRow W.heap.size 88 2 (.slice a' d.moves.length cap') d.moves.length (d.moves.map Dm.cs).flatten) ∧ Hid (Below W.heap.size W w')) := fun W hW =>
    copiesM_any d.moves _ a2 cap2 W hW.dk.ms hl.2.2 hs.2.2
  obtain ⟨f0, f1, f2, f3, f4, f5, f6, f7, f8⟩ := hst.drew.c
  have HST := hide hst.drew
  clear hst hv hl hs hP hbw
  subst hW0
  go_enter Tryz.func34, Tryz.ntmps34
  go_wp2_with fail
  go_region_held3 (fun W => W.cell? ⟨w.heap.size, 0, none⟩ = some (.slice a0 d.files.length cap0) ∧ W.cell? ⟨w.heap.size, 1, none⟩ = some (.slice a1 d.names.length cap1) ∧ W.cell? ⟨w.heap.size, 2, none⟩ = some (.slice a2 d.moves.length cap2)) (first | exact ⟨z0, z1, z2⟩ | exact ⟨f0, f1, f2⟩ | go_keep)
    (first
      | (go_at_call 62; refine (unhide HF _ (unhide HST)).mono ?_; rintro e w1 ⟨b0, k0, rfl, HF0, HB0⟩; have HS1 := hide ((unhide HST).on HB0.out); obtain ⟨z0, z1, z2, z3, z4, z5, z6, z7, z8⟩ := (unhide HS1).c)
      | (go_at_call 63; refine (unhide HN _ (unhide HS1)).mono ?_; rintro e w2 ⟨b1, k1, rfl, HF1, HB1⟩; have HS2 := hide ((unhide HS1).on HB1.out); obtain ⟨z0, z1, z2, z3, z4, z5, z6, z7, z8⟩ := (unhide HS2).c)
      | (go_at_call 64; refine (unhide HM _ (unhide HS2)).mono ?_; rintro e w3 ⟨b2, k2, rfl, HF2, HB2⟩; have HS3 := hide ((unhide HS2).on HB2.out); obtain ⟨z0, z1, z2, z3, z4, z5, z6, z7, z8⟩ := (unhide HS3).c))
  all_goals
    go_wp2_with fail
    refine bodyPost_ret (v := .agg #[.slice b0 d.files.length k0, .slice b1 d.names.length k1, .slice b2 d.moves.length k2]) (by simp [results, Tryz.results34, go_sem, z3, z4, z5]) rfl ?_
    have hb := (((unhide HS3).below.setCell (p := ⟨w.heap.size + 1, 0, none⟩) (by simp) (.slice b0 d.files.length k0)).setCell (p := ⟨w.heap.size + 1, 1, none⟩) (by simp) (.slice b1 d.names.length k1)).setCell (p := ⟨w.heap.size + 1, 2, none⟩) (by simp) (.slice b2 d.moves.length k2)
    have hlow : w.heap.size + 2 ≤ ((w.alloc (.cells #[.slice a0 d.files.length cap0, .slice a1 d.names.length cap1, .slice a2 d.moves.length cap2] 37)).alloc (.cells #[.slice none 0 0, .slice none 0 0, .slice none 0 0] 37)).drew.heap.size := by
      show _ ≤ ((w.alloc _).alloc _).heap.size
      simp
    have s1 := HB1.out.size; have s2 := HB2.out.size; have s0 := HB0.out.size
    have hkeep : ∀ b, w.heap.size + 2 ≤ b → (((w3.setCell ⟨w.heap.size + 1, 0, none⟩ (.slice b0 d.files.length k0)).setCell ⟨w.heap.size + 1, 1, none⟩ (.slice b1 d.names.length k1)).setCell ⟨w.heap.size + 1, 2, none⟩ (.slice b2 d.moves.length k2)).heap[b]? = w3.heap[b]? := fun b hb' => by
      rw [Below.heap_setCell _ _ _ _ (by simp; omega), Below.heap_setCell _ _ _ _ (by simp; omega), Below.heap_setCell _ _ _ _ (by simp; omega)]
    have g0 := HF0.out; have g1 := HF1.out; have g2 := HF2.out
    refine ⟨⟨_, _, _⟩, rfl, own_low (ownsRow_keep g0 (fun g e => ?_)) (by omega), own_low (ownsRow_keep g1 (fun g e => ?_)) (by omega), own_low (ownsRow_keep g2 (fun g e => ?_)) (by omega), hb⟩
    · have := g0.lt g e; rw [hkeep g (by omega), HB2.out.block g (by omega), HB1.out.block g (by omega)]
    · have := g1.lt g e; rw [hkeep g (by omega), HB2.out.block g (by omega)]
    · have := g2.lt g e; rw [hkeep g (by omega)]
end Go.Proofs.YtgdiankfnemjjaaGreat

/- The walk of the program's DiskDo: what a write does, in memory of its own; that it turns nothing that was there. No conditions but that the write's name is bounded. -/

namespace Go.Proofs.YtgdiankfnemjjaaGreat
open Go Go.RowKit Go.WideMaps Go.Maps

/-- A disk in memory of its own, and a number, are given back. -/
def OwnEnd2 (w w' : World) (e : Ending) (d : Dk) (n : Int) : Prop :=
  ∃ (c : C3) (F0 F1 F2 : List Nat), e = .returned (.tuple #[.agg #[c.c0, c.c1, c.c2], .int .i64 n]) ∧ DkOwn w' d c F0 F1 F2 ∧ (F0 ++ F1 ++ F2).Nodup ∧ (∀ b, b ∈ F0 ++ F1 ++ F2 → w.heap.size ≤ b ∧ b < w'.heap.size) ∧ Below w.heap.size w w'
/-- Lists in rows of different types lie apart. -/
theorem owns_ne {W : World} {b1 b2 e1 e2 s1 s2 n1 n2 g : Nat} {v1 v2 : Value} {x1 x2 : List Value} (h1 : W.ownsRow b1 e1 s1 v1 n1 x1) (h2 : W.ownsRow b2 e2 s2 v2 n2 x2) (hne : e1 ≠ e2) (g1 : v1.ownBlock = some g) (g2 : v2.ownBlock = some g) : False := by
  rcases h1.2 with ⟨hv, _⟩ | ⟨ga, c1, u1, hv1, _, hh1, _⟩
  · rw [hv] at g1; cases g1
  rcases h2.2 with ⟨hv, _⟩ | ⟨gb, c2, u2, hv2, _, hh2, _⟩
  · rw [hv] at g2; cases g2
  rw [hv1] at g1; rw [hv2] at g2
  simp only [Value.ownBlock, Option.some.injEq] at g1 g2
  subst g1; subst g2
  rw [hh1] at hh2
  simp only [Option.some.injEq, Obj.cells.injEq] at hh2
  exact hne hh2.2.1
/-- The copy is a disk of its own. -/
theorem MxSt.own {base L : Nat} {W : World} {x0 x1 x2 : Value} {fs : List Df} {ns : List ByteArray} {ms : List Dm} (h : MxSt base L W x0 x1 x2 fs ns ms) (hf : ∀ f, f ∈ fs → f.okM) (hn : ∀ x, x ∈ ns → x.size ≤ 9223372036854775807) (hm : ∀ m, m ∈ ms → m.okM) :
    ∃ F0 F1 F2, DkOwn W ⟨fs, ns, ms⟩ ⟨x0, x1, x2⟩ F0 F1 F2 ∧ (F0 ++ F1 ++ F2).Nodup ∧ ∀ b, b ∈ F0 ++ F1 ++ F2 → base ≤ b ∧ b < W.heap.size := by
  obtain ⟨F0, h1, h2, h3, h4⟩ := FlatOwn.of_row (rs := fs.map Df.cs) (n := 3) (by rw [List.length_map]; exact h.o0) (fun r hr => by obtain ⟨f, -, rfl⟩ := List.mem_map.1 hr; rfl)
  obtain ⟨F1, g1, g2, g3, g4⟩ := strsOwn_of_row h.o1 hn
  obtain ⟨F2, k1, k2, k3, k4⟩ := FlatOwn.of_row (rs := ms.map Dm.cs) (n := 2) (by rw [List.length_map]; exact h.o2) (fun r hr => by obtain ⟨f, -, rfl⟩ := List.mem_map.1 hr; rfl)
  refine ⟨F0, F1, F2, ⟨⟨h1, hf⟩, g1, ⟨k1, hm⟩⟩, ?_, fun b hb => ?_⟩
  · refine List.nodup_append.2 ⟨List.nodup_append.2 ⟨h4, g2, fun a ha b hb e => by subst e; exact owns_ne h.o0 h.o1 (by decide) (h2 a ha) (g4 a hb)⟩, k4, fun a ha b hb e => ?_⟩
    subst e
    rcases List.mem_append.1 ha with ha | ha
    · exact owns_ne h.o0 h.o2 (by decide) (h2 a ha) (k2 a hb)
    · exact owns_ne h.o1 h.o2 (by decide) (g4 a ha) (k2 a hb)
  · rcases List.mem_append.1 hb with hb | hb
    · rcases List.mem_append.1 hb with hb | hb
      · exact h3 b hb
      · exact g3 b hb
    · exact k3 b hb
theorem ok_small {d : Dk} (h : DkOkS d) : (∀ f, f ∈ d.files → f.name.size ≤ 1099511627776 ∧ f.data.size ≤ 1099511627776) ∧ (∀ x, x ∈ d.names → x.size ≤ 1099511627776) ∧ (∀ f, f ∈ d.moves → f.name.size ≤ 1099511627776) := by
  have hf : ∀ f, f ∈ d.files → f.name.size ≤ 8 ∧ f.data.size ≤ 20000 := fun f hf => by
    obtain ⟨i, hi, rfl⟩ := List.getElem_of_mem hf
    have hfi := h.file i hi (by rw [h.len]; exact hi)
    refine ⟨?_, hfi.data⟩
    refine Classical.byContradiction fun hno => ?_
    have hn := hfi.name
    rw [nameOk_len (Or.inr (by omega))] at hn
    cases hn
  obtain ⟨hnd, heq, -⟩ := dk_nodup h
  have hmd : ∀ x, x ∈ madeD d.names d.moves → x.size ≤ 8 := fun x hx => by
    rw [← heq] at hx
    obtain ⟨f, hf', rfl⟩ := List.mem_map.1 hx
    exact (hf f hf').1
  refine ⟨fun f hf' => by have := hf f hf'; omega, fun x hx => ?_, fun m hm => ?_⟩
  · have := hmd x (List.mem_append_left _ hx); omega
  · obtain ⟨i, hi, rfl⟩ := List.getElem_of_mem hm
    cases hg : d.moves[i].gone with
    | true =>
      have h1 := (after_nodup hnd i (by omega)).2 _ (hasB_iff.1 (h.move i hi hg))
      have := hmd _ ((made_sub d.names d.moves i).subset h1)
      omega
    | false =>
      have : d.moves[i].name ∈ madeD d.names d.moves := by
        unfold madeD
        refine List.mem_append_right _ ?_
        simp only [List.mem_map, List.mem_filter]
        exact ⟨d.moves[i], ⟨hm, by simp [hg]⟩, rfl⟩
      have := hmd _ this
      omega
end Go.Proofs.YtgdiankfnemjjaaGreat

/- A law for a callee that raises a fault in a region that draws its order. No program, no conditions. -/

namespace Go.Proofs.YtgdiankfnemjjaaGreat
open Go Go.RowKit

end Go.Proofs.YtgdiankfnemjjaaGreat
