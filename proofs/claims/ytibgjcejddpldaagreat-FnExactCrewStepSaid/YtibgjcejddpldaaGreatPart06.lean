/- A part. -/
import Derived.Test.YtibgjcejddpldaaGreatPart04
import Derived.Test.YtibgjcejddpldaaGreatPart05
namespace Go.Proofs.YtibgjcejddpldaaGreat
open Go Go.RowKit
set_option maxRecDepth 100000
set_option maxHeartbeats 3200000
theorem World.heap_alloc_newC (w : World) (o : Obj) : (w.alloc o).heap[w.heap.size]? = some o := by
 show (w.heap.push o)[w.heap.size]? = some o
 simp
theorem zflat_map (zs : List Int) : (zs.map zcs).flatten = zs.map (Value.int .i64) := by
 induction zs with
 | nil => rfl
 | cons z r ih => simp only [List.map_cons, List.flatten_cons, ih]; rfl
theorem cloneZ_any (v : Value) (zs : List Int) (w : World) {P : Nat → Prop} (hv : ZAt P w v zs) (hl : zs.length ≤ 1048576) :
 Calls Tryz.prog 74 #[v] w fun e w' => ∃ a c, e = .returned (.slice a zs.length c) ∧ w'.ownsRow w.heap.size 3 1 (.slice a zs.length c) zs.length (zs.map zcs).flatten ∧ Below w.heap.size w w' := by
 obtain ⟨a, cap, rfl, hlen, hc⟩ := hv.open
 have key : ∀ (v' : Value) (w' : World), w'.ownsRow w.heap.size 3 1 v' zs.length (zs.map zcs).flatten → Below w.heap.size w w' → ∃ a c, Ending.returned v' = .returned (.slice a zs.length c) ∧ w'.ownsRow w.heap.size 3 1 (.slice a zs.length c) zs.length (zs.map zcs).flatten ∧ Below w.heap.size w w' := fun v' w' h1 h2 => by
  rcases h1.2 with ⟨hv, h0⟩ | ⟨g, cap, cur, hv, hr⟩
  · subst hv; exact ⟨none, 0, by rw [h0], by rw [h0] at h1 ⊢; exact h1, h2⟩
  · subst hv; exact ⟨_, _, rfl, h1, h2⟩
 rcases Nat.eq_zero_or_pos zs.length with h0 | h0
 · have hss : zs = [] := List.eq_nil_of_length_eq_zero h0
   subst hss
   cases a with
   | none =>
     refine (Tryz.slices_Clone_int_nil 0 cap w).mono ?_
     rintro e w' ⟨rfl, rfl⟩
     exact ⟨none, 0, rfl, ⟨by simp, Or.inl ⟨rfl, rfl⟩⟩, Below.refl _ _⟩
   | some ad =>
     refine (Tryz.slices_Clone_int_zero ad cap w).mono ?_
     rintro e w' ⟨v', rfl, h1, -, h2⟩
     exact key v' w' h1 h2
 · obtain ⟨b, o, rfl, -, -⟩ := hc 0 h0
   refine (Tryz.slices_Clone_int b o zs.length cap zs w (Nat.le_refl _) (by omega) (fun j hj => ?_)).mono ?_
   · obtain ⟨b', o', e, -, hcell⟩ := hc j hj
     simp only [Option.some.injEq, Addr.mk.injEq, and_true] at e
     obtain ⟨rfl, rfl⟩ := e
     rw [hcell]
     simp [List.getD, hj]
   · rintro e w' ⟨v', rfl, h1, -, h2⟩
     rw [List.take_of_length_le (Nat.le_refl _), ← zflat_map] at h1
     exact key v' w' h1 h2
theorem hflat_len : ∀ (hs : List Hd), (hs.map Hd.cs).flatten.length = hs.length * 2
 | [] => rfl
 | h :: r => by
     have := hflat_len r
     simp only [List.map_cons, List.flatten_cons, List.length_append, List.length_cons, this]
     have e : h.cs.length = 2 := rfl
     omega
theorem hflat_one : ∀ (hs : List Hd), ∀ u ∈ (hs.map Hd.cs).flatten, u.oneCell' = true
 | [], u, hu => by cases hu
 | h :: r, u, hu => by
     simp only [List.map_cons, List.flatten_cons, List.mem_append] at hu
     rcases hu with hu | hu
     · simp only [Hd.cs, List.mem_cons, List.not_mem_nil, or_false] at hu
       rcases hu with rfl | rfl <;> rfl
     · exact hflat_one r u hu
theorem eqNilH (b n c : Nat) (W : World) : Sem.run Tryz.prog (binOp .eql 24 (.slice (some ⟨b, 0, none⟩) n c) (.slice none 0 0)) W = .ok (.bool false) W := by kernel_rfl
theorem cloneH_any (b c : Nat) (hs : List Hd) (w : World) (h : w.rowIs b 73 (hs.length * 2) (r18 (hs.map Hd.cs).flatten)) (hl : hs.length ≤ 1048576) :
 Calls Tryz.prog 78 #[.slice (some ⟨b, 0, none⟩) hs.length c] w fun e w' => ∃ a c, e = .returned (.slice a hs.length c) ∧ w'.ownsRow w.heap.size 73 2 (.slice a hs.length c) hs.length (hs.map Hd.cs).flatten ∧ Below w.heap.size w w' := by
 obtain ⟨j3, hJ, hW0, hW1, hW2⟩ := info_parts infoHandM
 have HJ := xH hJ; have HW0 := xH hW0; have HW1 := xH hW1; have HW2 := xH hW2
 clear hJ hW0 hW1 hW2
 have HEMP := xH (fun o => (show o = Obj.cells #[] 73 → (w.alloc o).ownsRow w.heap.size 73 2 (.slice (some ⟨w.heap.size, 0, none⟩) 0 0) 0 [] from fun ho => by
  subst ho
  exact ⟨rfl, Or.inr ⟨w.heap.size, 0, #[], rfl, Nat.le_refl _, World.heap_alloc_newC _ _, Nat.le_refl _, by unfold maxLen; omega, rfl, rfl⟩⟩))
 have HSRC := xH (show ∀ o, 0 < hs.length → ∃ ad, some (⟨b, 0, none⟩ : Addr) = some ad ∧ ∀ j u, (hs.map Hd.cs).flatten[j]? = some u → (w.alloc o).cell? (ad.add j) = some u from fun o _ => ⟨_, rfl, fun j u hj => by
  have hjl := (List.getElem?_eq_some_iff.1 hj).1
  rw [hflat_len] at hjl
  have := (h.alloc o).cell (i := j) hjl
  rw [Addr.add_lit, Nat.zero_add, this]
  show some ((hs.map Hd.cs).flatten.getD j undef) = some u
  simp [List.getD, hj]⟩)
 have HXL := xH (hflat_len hs); have HX1 := xH (hflat_one hs)
 clear h
 have heq := eqNilH b hs.length c
 go_enter Tryz.func78, Tryz.ntmps78
 go_wp2_with (at_builtin; refine append_copyD _ rfl _ _ 24 rfl w.heap.size 73 j3 (.agg #[.int .i64 0, .int .i64 0]) 2 16 Tryz.underlying24 (xU HJ) (xU HW0) (xU HW1) (xU HW2) rfl (by decide) w.heap.size rfl (xU HEMP _ rfl) (some ⟨b, 0, none⟩) hs.length c (hs.map Hd.cs).flatten rfl (xU HXL) (xU HSRC _) (xU HX1) (by unfold maxLen; omega) (by omega) (by simp) ?_; intro g cap w2 HO HG)
 go_ret
 exact ⟨_, _, rfl, xU HO, ((Below.refl w.heap.size w).alloc (Nat.le_refl _) _).trans ((Below.refl w.heap.size _).grown (xU HG) (by simp) (fun k e => by simp at e; omega))⟩

theorem run_make_hands (n : Nat) (hn : n ≤ 1048576) (w : World) : (Instr.makeSlice 24 (.int .i64 (n : Int)) (.int .i64 (n : Int))).run Tryz.prog w = .ok (.slice (some ⟨w.heap.size, 0, none⟩) n n) (w.alloc (.cells (madeCells #[.int .i64 0, .int .i64 0] (n * 2)) 73)) := by
 obtain ⟨i, hi, hzz⟩ := Option.map_eq_some_iff.1 infoHandM
 simp only [Prod.mk.injEq] at hzz
 obtain ⟨hz, hs, hb⟩ := hzz
 have hr := run_make (P := Tryz.prog) w 24 73 i (.agg #[.int .i64 0, .int .i64 0]) Tryz.underlying24 hi hz .i64 .i64 n n (by omega) (Int.le_refl _) (by rw [hb]; omega) (by omega)
 simp only [Int.toNat_natCast, hs] at hr
 exact hr
theorem row_hands (w : World) (m : Nat) (t : TypeId) : (w.alloc (.cells (madeCells #[.int .i64 0, .int .i64 0] m) t)).rowIs w.heap.size t m (fun _ => .int .i64 0) :=
 by
 have := World.rowIs_alloc w (madeCells #[.int .i64 0, .int .i64 0] m) t (fun _ => .int .i64 0) (fun i hi => by
  rw [size_madeCells] at hi
  have h2 : i % 2 = 0 ∨ i % 2 = 1 := by omega
  rcases h2 with h2 | h2 <;> simp [madeCells, hi, h2])
 rwa [size_madeCells] at this
structure NcSt (base C H : Nat) (W : World) (j : Int) (k : Nat) (vG : Value) (gs : List Int) : Prop where
 lt : C < base
 ltH : H < C
 row : W.rowIs C 78 16 (r18 [.int .i64 j, .int .i64 0, .int .i64 0, .pointer none, .slice (some ⟨H, 0, none⟩) k k, .int .i64 0, .pointer none, .int .i64 0, vG, .int .i64 0, .pointer none, .int .i64 0, .slice none 0 0, .pointer none, .pointer none, .int .i64 0])
 hands : W.rowIs H 73 (k * 2) (fun _ => .int .i64 0)
 og : W.ownsRow base 3 1 vG gs.length (gs.map zcs).flatten
theorem NcSt.keep {base C H : Nat} {W W' : World} {j : Int} {k : Nat} {vG : Value} {gs : List Int} (h : NcSt base C H W j k vG gs) (hb : Below W.heap.size W W') : NcSt base C H W' j k vG gs :=
 ⟨h.lt, h.ltH, h.row.of_block (hb.block C h.row.lt), h.hands.of_block (hb.block H h.hands.lt), ownsRow_keepT h.og (fun g e => hb.block g (h.og.lt g e).2)⟩
theorem NcSt.addG {base C H : Nat} {W W' : World} {j : Int} {k : Nat} {vG vG' : Value} {gs : List Int} (h : NcSt base C H W j k vG gs) (z : Int) (hown : W'.ownsRow base 3 1 vG' (gs.length + 1) ((gs.map zcs).flatten ++ zcs z)) (hg : W.grownBy W' vG.ownBlock) : NcSt base C H (W'.setCell ⟨C, 8, none⟩ vG') j k vG' (gs ++ [z]) := by
 have hno : ∀ x, x < base → some x ≠ vG.ownBlock := fun x hx e => by have := (h.og.lt x e.symm).1; omega
 have hlH : H < base := by have := h.lt; have := h.ltH; omega
 have hC := h.row.of_block (hg.block C h.row.lt (hno C h.lt))
 have hH := h.hands.of_block (hg.block H h.hands.lt (hno H hlH))
 refine ⟨h.lt, h.ltH, row_put hC 8 (by simp) vG', hH.setOther (a := ⟨C, 8, none⟩) (Nat.ne_of_lt h.ltH) vG', ?_⟩
 refine ownsRow_setCell_below ?_ h.lt _
 rw [List.length_append, List.map_append, List.flatten_append]
 simpa using hown
theorem set3_other {W : World} {b C : Nat} {T : TypeId} {n : Nat} {f : Nat → Value} (h : W.rowIs b T n f) (hne : b ≠ C) (o1 o2 o3 : Nat) (x y z : Value) : (((W.setCell ⟨C, o1, none⟩ x).setCell ⟨C, o2, none⟩ y).setCell ⟨C, o3, none⟩ z).rowIs b T n f :=
 ((h.setOther (a := ⟨C, o1, none⟩) hne x).setOther (a := ⟨C, o2, none⟩) hne y).setOther (a := ⟨C, o3, none⟩) hne z
theorem set2_other {W : World} {b C : Nat} {T : TypeId} {n : Nat} {f : Nat → Value} (h : W.rowIs b T n f) (hne : b ≠ C) (o1 o2 : Nat) (x y : Value) : ((W.setCell ⟨C, o1, none⟩ x).setCell ⟨C, o2, none⟩ y).rowIs b T n f :=
 (h.setOther (a := ⟨C, o1, none⟩) hne x).setOther (a := ⟨C, o2, none⟩) hne y
theorem RgAt.set3 {W : World} {b p n C : Nat} {l : List Int} {s : Int} (h : RgAt W b p n l s) (h1 : b ≠ C) (h2 : p ≠ C) (o1 o2 o3 : Nat) (x y z : Value) : RgAt (((W.setCell ⟨C, o1, none⟩ x).setCell ⟨C, o2, none⟩ y).setCell ⟨C, o3, none⟩ z) b p n l s := ((h.other h1 h2 x).other h1 h2 y).other h1 h2 z
theorem RgAt.set2 {W : World} {b p n C : Nat} {l : List Int} {s : Int} (h : RgAt W b p n l s) (h1 : b ≠ C) (h2 : p ≠ C) (o1 o2 : Nat) (x y : Value) : RgAt ((W.setCell ⟨C, o1, none⟩ x).setCell ⟨C, o2, none⟩ y) b p n l s := (h.other h1 h2 x).other h1 h2 y
def ncB (S q r o M T G cg : Nat) : CrB := ⟨S, q + 1, q, r + 1, r, o + 1, o, M, T, G, cg, none, 0⟩
def ncCw (j : Int) (k n : Nat) : Cw := ⟨j, k, n, 0, 0, [], List.replicate k ⟨0, 0⟩, 0, [], 0, List.replicate n (-1), 0, [], 0, [], n, [0, 0, 0, 0], 0⟩
theorem nc_hands (k : Nat) : ∀ i, i < k * 2 → r18 ((List.replicate k (⟨0, 0⟩ : Hd)).map Hd.cs).flatten i = .int .i64 0 := by
 induction k with
 | zero => intro i hi; omega
 | succ k ih =>
   intro i hi
   rw [List.replicate_succ, List.map_cons, List.flatten_cons]
   by_cases h : i < 2
   · rcases (show i = 0 ∨ i = 1 by omega) with rfl | rfl <;> rfl
   · obtain ⟨d, rfl⟩ : ∃ d, i = d + 2 := ⟨i - 2, by omega⟩
     exact ih d (by omega)
theorem newCrew_yes (j : Int) (k n : Nat) (w : World) (hok : stOk j k n) : Calls Tryz.prog 73 #[.int .i64 j, .int .i64 k, .int .i64 n] w fun e w' => ∃ C B, e = .returned (.tuple #[.pointer (some ⟨C, 0, none⟩), .bool true]) ∧ CrAt w' C (ncCw j k n) B ∧ (∀ b, b ∈ CrB.blocks C B → w.heap.size ≤ b) ∧ Below w.heap.size w w' := by
 have HSZ := xH (fun W => sizesOk_any j k n W)
 have HD := xH (show decide ((0 ≤ j ∧ j ≤ 60) ∧ (1 ≤ (k : Int) ∧ (k : Int) ≤ 8) ∧ (1 ≤ (n : Int) ∧ (n : Int) ≤ 16)) = true from decide_eq_true hok)
 have hk8 : k ≤ 8 := by have := hok.2.1.2; omega
 have hn16 : n ≤ 16 := by have := hok.2.2.2; omega
 have hk1 : 0 < k := by have := hok.2.1.1; omega
 have hn1 : 0 < n := by have := hok.2.2.1; omega
 clear hok
 have HMK := xH (run_make_hands k (by omega))
 go_enter Tryz.func73, Tryz.ntmps73
 go_wp2_with fail
 refine (xU HSZ _).mono ?_
 rintro e w1 ⟨rfl, hb1⟩
 rw [xU HD]
 have B1 := xH hb1
 clear hb1
 have hmk := xU HMK w1
 go_wp2_with fail
 clear hmk
 have h16 := World.rowIs_alloc (w1.alloc (.cells (madeCells #[.int .i64 0, .int .i64 0] (k * 2)) 73)) #[.int .i64 j, .int .i64 0, .int .i64 0, .pointer none, .slice (some ⟨w1.heap.size, 0, none⟩) k k, .int .i64 0, .pointer none, .int .i64 0, .slice none 0 0, .int .i64 0, .pointer none, .int .i64 0, .slice none 0 0, .pointer none, .pointer none, .int .i64 0] 78 (r18 [.int .i64 j, .int .i64 0, .int .i64 0, .pointer none, .slice (some ⟨w1.heap.size, 0, none⟩) k k, .int .i64 0, .pointer none, .int .i64 0, .slice none 0 0, .int .i64 0, .pointer none, .int .i64 0, .slice none 0 0, .pointer none, .pointer none, .int .i64 0]) (fun i hi => by
  have hi' : i < 16 := hi
  rcases (show i = 0 ∨ i = 1 ∨ i = 2 ∨ i = 3 ∨ i = 4 ∨ i = 5 ∨ i = 6 ∨ i = 7 ∨ i = 8 ∨ i = 9 ∨ i = 10 ∨ i = 11 ∨ i = 12 ∨ i = 13 ∨ i = 14 ∨ i = 15 by omega) with rfl | rfl | rfl | rfl | rfl | rfl | rfl | rfl | rfl | rfl | rfl | rfl | rfl | rfl | rfl | rfl <;> rfl)
 rw [World.size_alloc] at h16
 have hH := (row_hands w1 (k * 2) 73).alloc (.cells #[.int .i64 j, .int .i64 0, .int .i64 0, .pointer none, .slice (some ⟨w1.heap.size, 0, none⟩) k k, .int .i64 0, .pointer none, .int .i64 0, .slice none 0 0, .int .i64 0, .pointer none, .int .i64 0, .slice none 0 0, .pointer none, .pointer none, .int .i64 0] 78)
 have hbx := ((xU B1).alloc (xU B1).size (.cells (madeCells #[.int .i64 0, .int .i64 0] (k * 2)) 73)).alloc (by rw [World.size_alloc]; exact Nat.le_succ_of_le (xU B1).size) (.cells #[.int .i64 j, .int .i64 0, .int .i64 0, .pointer none, .slice (some ⟨w1.heap.size, 0, none⟩) k k, .int .i64 0, .pointer none, .int .i64 0, .slice none 0 0, .int .i64 0, .pointer none, .int .i64 0, .slice none 0 0, .pointer none, .pointer none, .int .i64 0] 78)
 have hws := (xU B1).size
 clear B1
 generalize (w1.alloc _).alloc _ = X at h16 hH hbx ⊢
 generalize w1.heap.size = S at h16 hH hws ⊢
 clear w1
 have HN0 := xH (show NcSt (S + 2) (S + 1) S X j k (.slice none 0 0) [] from ⟨by omega, by omega, h16, hH, ⟨rfl, Or.inl ⟨rfl, rfl⟩⟩⟩)
 have QB := xH hbx
 clear h16 hH hbx
 obtain ⟨j1, hI, hI0, hI1, hI2⟩ := info_parts infoIntM
 have HI := xH hI; have HI0 := xH hI0; have HI1 := xH hI1; have HI2 := xH hI2
 clear hI hI0 hI1 hI2
 go_loopw [20] (fun i wr => ∃ (d : Nat) (aG : Option Addr) (nG cG : Nat), d ≤ n ∧ i = .int .i64 d ∧ Hid (NcSt (S + 2) (S + 1) S wr j k (.slice aG nG cG) (List.replicate d (-1))) ∧ Hid (Below (S + 1) X wr)) (fun i _ => n - (intOf i).toNat)
 case atStart => exact ⟨0, none, 0, 0, Nat.zero_le _, rfl, HN0, xH (Below.refl _ _)⟩
 case round =>
  obtain ⟨d, aG, nG, cG, hd, rfl, HS, HB⟩ := hrel
  by_cases hlt2 : d < n
  · have hr := HS.out.row
    have y6 := hr.cell (i := 8) (by omega); have f6 := hr.frozen 8
    simp only [r18, List.getD_cons_zero, List.getD_cons_succ] at y6
    have hsw := (xU HB).size
    have hsl := hr.lt
    have y6a : ∀ ob, (wr.alloc ob).cell? ⟨S + 1, 8, none⟩ = some (.slice aG nG cG) := fun ob => (World.cell?_of_block (a := ⟨S + 1, 8, none⟩) (Below.heap_alloc wr ob _ hr.lt)).trans y6
    have hll : (List.replicate d (-1 : Int)).length = d := List.length_replicate
    clear hr
    have HRS := xH (show List.replicate (d + 1) ((-1) : Int) = List.replicate d (-1) ++ [(-1)] from List.replicate_succ')
    generalize List.replicate d ((-1) : Int) = hsL at HS HRS hll
    go_wp2_with (at_builtin; refine append_row _ rfl _ _ 23 rfl (S + 2) 3 j1 (.int .i64 0) 1 8 Tryz.underlying23 (xU HI) (xU HI0) (xU HI1) (xU HI2) rfl (by decide) (.slice aG nG cG) hsL.length (hsL.map zcs).flatten rfl (World.ownsRow.alloc HS.out.og _) ⟨wr.heap.size, 0, none⟩ 1 1 [.int .i64 (-1)] rfl rfl (cell_one wr _ _) (fun u hu => by simp at hu; subst hu; rfl) (by decide) (by unfold maxLen; omega) (by omega) (by simp; omega) ?_; intro v' w8 hown8 hgrow8 hat8; obtain ⟨g8, cap8, rfl, hg1, hg2⟩ := hown8.form (by omega); have hr8 := HS.out.row.of_block ((hgrow8.block (S + 1) (by simp; omega) (fun e => by have := (HS.out.og.lt (S + 1) e.symm).1; omega)).trans (Below.heap_alloc wr _ _ HS.out.row.lt)); have u1 := hr8.cell (i := 8) (by omega); have uz1 := hr8.frozen 8; simp only [r18, List.getD_cons_zero, List.getD_cons_succ] at u1; have hadd := (HS.out.keep ((Below.refl _ _).alloc (Nat.le_refl _) (.cells #[.int .i64 (-1)] 3))).addG (-1) hown8 hgrow8; have hbx : Below (S + 1) X (w8.setCell ⟨S + 1, 8, none⟩ (.slice (some ⟨g8, 0, none⟩) (hsL.length + 1) cap8)) := (((xU HB).trans ((Below.refl _ wr).alloc (by omega) (.cells #[.int .i64 (-1)] 3))).trans ((Below.refl (S + 1) _).grown hgrow8 (by simp; omega) (fun g e => by have := (HS.out.og.lt g e).1; omega))).setCell (by simp) _; rw [← xU HRS] at hadd; have HAD := xH hadd; have HXX := xH hbx; clear hadd hbx hown8 hgrow8 hat8 hr8)
    go_roundw
    case rel => rw [hll] at HAD HXX; exact ⟨d + 1, some ⟨g8, 0, none⟩, d + 1, cap8, by omega, by go_num, HAD, HXX⟩
    case measure => simp [intOf]; omega
  · obtain rfl : d = n := by omega
    have hsl := HS.out.row.lt
    have HSW := xH (xU HB).size
    go_wp2_with fail
    refine (newRing_any k _ (by omega)).mono ?_
    rintro e wa ⟨rfl, q1, pl1, hs1, hb1⟩
    have N1 := HS.out.keep hb1
    have B1 := xH ((xU HB).trans (hb1.mono (by omega)))
    have hla : wr.heap.size + 1 < wa.heap.size := by omega
    have GLW := xH (HS.out.og.lt)
    have N1 := xH N1; have Q1 := xH (RgAt.new hk1 (by omega) q1 pl1)
    clear hs1 hb1 q1 pl1 HS HB
    go_wp2_with fail
    refine (newRing_any k _ (by omega)).mono ?_
    rintro e wb ⟨rfl, q2, pl2, hs2, hb2⟩
    have N2 := xH ((xU N1).keep hb2)
    have Q1 := xH ((xU Q1).below hb2)
    have B2 := xH ((xU B1).trans (hb2.mono (by omega)))
    have hlb : wa.heap.size + 1 < wb.heap.size := by omega
    have Q2 := xH (RgAt.new hk1 (by omega) q2 pl2)
    clear hs2 hb2 q2 pl2 N1 B1
    go_wp2_with fail
    refine (newRing_any 1 _ (by omega)).mono ?_
    rintro e wc ⟨rfl, q3, pl3, hs3, hb3⟩
    have n3 := (xU N2).keep hb3
    have Q1 := xH ((xU Q1).below hb3)
    have Q2 := xH ((xU Q2).below hb3)
    have B3 := xH ((xU B2).trans (hb3.mono (by omega)))
    have hlc : wb.heap.size + 1 < wc.heap.size := by omega
    have Q3 := xH (RgAt.new (by omega) (by omega) q3 pl3)
    clear hs3 hb3 q3 pl3 N2 B2
    have z3 := n3.row.cell (i := 3) (by omega); have z6 := n3.row.cell (i := 6) (by omega); have z10 := n3.row.cell (i := 10) (by omega)
    have g3 := n3.row.frozen 3; have g6 := n3.row.frozen 6; have g10 := n3.row.frozen 10
    simp only [r18, List.getD_cons_zero, List.getD_cons_succ] at z3 z6 z10
    have N3 := xH n3
    clear n3
    go_wp2_with fail
    have n3 := xU N3
    have row4 : (((wc.setCell ⟨S + 1, 3, none⟩ (.pointer (some ⟨wr.heap.size + 1, 0, none⟩))).setCell ⟨S + 1, 6, none⟩ (.pointer (some ⟨wa.heap.size + 1, 0, none⟩))).setCell ⟨S + 1, 10, none⟩ (.pointer (some ⟨wb.heap.size + 1, 0, none⟩))).rowIs (S + 1) 78 16 (r18 [.int .i64 j, .int .i64 0, .int .i64 0, .pointer (some ⟨wr.heap.size + 1, 0, none⟩), .slice (some ⟨S, 0, none⟩) k k, .int .i64 0, .pointer (some ⟨wa.heap.size + 1, 0, none⟩), .int .i64 0, .slice aG nG cG, .int .i64 0, .pointer (some ⟨wb.heap.size + 1, 0, none⟩), .int .i64 0, .slice none 0 0, .pointer none, .pointer none, .int .i64 0]) := row_put (row_put (row_put n3.row 3 (by simp) (.pointer (some ⟨wr.heap.size + 1, 0, none⟩))) 6 (by simp) (.pointer (some ⟨wa.heap.size + 1, 0, none⟩))) 10 (by simp) (.pointer (some ⟨wb.heap.size + 1, 0, none⟩))
    have hands4 := set3_other n3.hands (show S ≠ S + 1 by omega) 3 6 10 (.pointer (some ⟨wr.heap.size + 1, 0, none⟩)) (.pointer (some ⟨wa.heap.size + 1, 0, none⟩)) (.pointer (some ⟨wb.heap.size + 1, 0, none⟩))
    have og4 := ownsRow_setCell_below (a := ⟨S + 1, 10, none⟩) (ownsRow_setCell_below (a := ⟨S + 1, 6, none⟩) (ownsRow_setCell_below (a := ⟨S + 1, 3, none⟩) n3.og n3.lt (.pointer (some ⟨wr.heap.size + 1, 0, none⟩))) n3.lt (.pointer (some ⟨wa.heap.size + 1, 0, none⟩))) n3.lt (.pointer (some ⟨wb.heap.size + 1, 0, none⟩))
    have qa := (xU Q1).set3 (show wr.heap.size + 1 ≠ S + 1 by omega) (show wr.heap.size ≠ S + 1 by omega) 3 6 10 (.pointer (some ⟨wr.heap.size + 1, 0, none⟩)) (.pointer (some ⟨wa.heap.size + 1, 0, none⟩)) (.pointer (some ⟨wb.heap.size + 1, 0, none⟩))
    have qb := (xU Q2).set3 (show wa.heap.size + 1 ≠ S + 1 by omega) (show wa.heap.size ≠ S + 1 by omega) 3 6 10 (.pointer (some ⟨wr.heap.size + 1, 0, none⟩)) (.pointer (some ⟨wa.heap.size + 1, 0, none⟩)) (.pointer (some ⟨wb.heap.size + 1, 0, none⟩))
    have qc := (xU Q3).set3 (show wb.heap.size + 1 ≠ S + 1 by omega) (show wb.heap.size ≠ S + 1 by omega) 3 6 10 (.pointer (some ⟨wr.heap.size + 1, 0, none⟩)) (.pointer (some ⟨wa.heap.size + 1, 0, none⟩)) (.pointer (some ⟨wb.heap.size + 1, 0, none⟩))
    have b4 := (((xU B3).setCell (p := ⟨S + 1, 3, none⟩) (Nat.le_refl _) (.pointer (some ⟨wr.heap.size + 1, 0, none⟩))).setCell (p := ⟨S + 1, 6, none⟩) (Nat.le_refl _) (.pointer (some ⟨wa.heap.size + 1, 0, none⟩))).setCell (p := ⟨S + 1, 10, none⟩) (Nat.le_refl _) (.pointer (some ⟨wb.heap.size + 1, 0, none⟩))
    clear n3 N3 B3 Q1 Q2 Q3 z3 z6 z10 g3 g6 g10
    generalize (((wc.setCell ⟨S + 1, 3, none⟩ (.pointer (some ⟨wr.heap.size + 1, 0, none⟩))).setCell ⟨S + 1, 6, none⟩ (.pointer (some ⟨wa.heap.size + 1, 0, none⟩))).setCell ⟨S + 1, 10, none⟩ (.pointer (some ⟨wb.heap.size + 1, 0, none⟩))) = W at row4 hands4 og4 qa qb qc b4 ⊢
    have hl4 := row4.lt
    have QL := xH (show wr.heap.size + 1 < W.heap.size ∧ wa.heap.size + 1 < W.heap.size ∧ wb.heap.size + 1 < W.heap.size from ⟨qa.lt.1, qb.lt.1, qc.lt.1⟩)
    have GL := xH og4.lt
    have QN := xH (show S + 1 < wr.heap.size ∧ wr.heap.size + 1 < wa.heap.size ∧ wa.heap.size + 1 < wb.heap.size ∧ wb.heap.size + 1 < W.heap.size from ⟨by omega, by omega, by omega, qc.lt.1⟩)
    clear HSW hla hlb hlc hsl
    generalize wr.heap.size = q at row4 qa QN QL GLW ⊢
    generalize wa.heap.size = r at row4 qb QN QL ⊢
    generalize wb.heap.size = o at row4 qc QN QL ⊢
    have R4 := xH row4; have H4 := xH hands4; have G4 := xH og4; have QA := xH qa; have QB' := xH qb; have QC := xH qc; have B4 := xH b4
    clear row4 hands4 og4 qa qb qc b4
    refine (newRingP_any d W (by omega)).mono ?_
    rintro e wd ⟨rfl, q4, hs4, hb4⟩
    have R5 := xH ((xU R4).of_block (hb4.block _ (xU R4).lt)); have H5 := xH ((xU H4).of_block (hb4.block _ (xU H4).lt))
    have G5 := xH (ownsRow_keepT (xU G4) (fun g e => hb4.block g ((xU G4).lt g e).2))
    have QA := xH ((xU QA).below hb4); have QB' := xH ((xU QB').below hb4); have QC := xH ((xU QC).below hb4)
    have B5 := xH ((xU B4).trans (hb4.mono (by omega)))
    have hld : W.heap.size + 1 < wd.heap.size := by omega
    have QD := xH q4
    clear R4 H4 G4 B4 q4 hs4 hb4
    go_wp2_with fail
    refine (newRingP_any 0 _ (by omega)).mono ?_
    rintro e we ⟨rfl, q5, hs5, hb5⟩
    have r6 := (xU R5).of_block (hb5.block _ (xU R5).lt); have H6 := xH ((xU H5).of_block (hb5.block _ (xU H5).lt))
    have G6 := xH (ownsRow_keepT (xU G5) (fun g e => hb5.block g ((xU G5).lt g e).2))
    have QA := xH ((xU QA).below hb5); have QB' := xH ((xU QB').below hb5); have QC := xH ((xU QC).below hb5); have QD := xH ((xU QD).of_block (hb5.block _ (xU QD).lt))
    have B6 := xH ((xU B5).trans (hb5.mono (by omega)))
    have QE := xH q5
    clear H5 G5 B5 hs5 hb5 q5 R5
    have z3 := r6.cell (i := 13) (by omega); have z6 := r6.cell (i := 14) (by omega)
    have g3 := r6.frozen 13; have g6 := r6.frozen 14
    simp only [r18, List.getD_cons_zero, List.getD_cons_succ] at z3 z6
    have R6 := xH r6
    clear r6
    go_upto_region 10 with fail
    have row7 : ((we.setCell ⟨S + 1, 13, none⟩ (.pointer (some ⟨W.heap.size + 1, 0, none⟩))).setCell ⟨S + 1, 14, none⟩ (.pointer (some ⟨wd.heap.size + 1, 0, none⟩))).rowIs (S + 1) 78 16 (r18 [.int .i64 j, .int .i64 0, .int .i64 0, .pointer (some ⟨q + 1, 0, none⟩), .slice (some ⟨S, 0, none⟩) k k, .int .i64 0, .pointer (some ⟨r + 1, 0, none⟩), .int .i64 0, .slice aG nG cG, .int .i64 0, .pointer (some ⟨o + 1, 0, none⟩), .int .i64 0, .slice none 0 0, .pointer (some ⟨W.heap.size + 1, 0, none⟩), .pointer (some ⟨wd.heap.size + 1, 0, none⟩), .int .i64 0]) := row_put (row_put (xU R6) 13 (by simp) (.pointer (some ⟨W.heap.size + 1, 0, none⟩))) 14 (by simp) (.pointer (some ⟨wd.heap.size + 1, 0, none⟩))
    have hands7 := set2_other (xU H6) (show S ≠ S + 1 by omega) 13 14 (.pointer (some ⟨W.heap.size + 1, 0, none⟩)) (.pointer (some ⟨wd.heap.size + 1, 0, none⟩))
    have og7 := ownsRow_setCell_below (a := ⟨S + 1, 14, none⟩) (ownsRow_setCell_below (a := ⟨S + 1, 13, none⟩) (xU G6) (show S + 1 < S + 2 by omega) (.pointer (some ⟨W.heap.size + 1, 0, none⟩))) (show S + 1 < S + 2 by omega) (.pointer (some ⟨wd.heap.size + 1, 0, none⟩))
    have qa := (xU QA).set2 (show q + 1 ≠ S + 1 by have := xU QN; omega) (show q ≠ S + 1 by have := xU QN; omega) 13 14 (.pointer (some ⟨W.heap.size + 1, 0, none⟩)) (.pointer (some ⟨wd.heap.size + 1, 0, none⟩))
    have qb := (xU QB').set2 (show r + 1 ≠ S + 1 by have := xU QN; omega) (show r ≠ S + 1 by have := xU QN; omega) 13 14 (.pointer (some ⟨W.heap.size + 1, 0, none⟩)) (.pointer (some ⟨wd.heap.size + 1, 0, none⟩))
    have qc := (xU QC).set2 (show o + 1 ≠ S + 1 by have := xU QN; omega) (show o ≠ S + 1 by have := xU QN; omega) 13 14 (.pointer (some ⟨W.heap.size + 1, 0, none⟩)) (.pointer (some ⟨wd.heap.size + 1, 0, none⟩))
    have qd := set2_other (xU QD) (show W.heap.size + 1 ≠ S + 1 by omega) 13 14 (.pointer (some ⟨W.heap.size + 1, 0, none⟩)) (.pointer (some ⟨wd.heap.size + 1, 0, none⟩))
    have qe := set2_other (xU QE) (show wd.heap.size + 1 ≠ S + 1 by omega) 13 14 (.pointer (some ⟨W.heap.size + 1, 0, none⟩)) (.pointer (some ⟨wd.heap.size + 1, 0, none⟩))
    have b7 := ((xU B6).setCell (p := ⟨S + 1, 13, none⟩) (Nat.le_refl _) (.pointer (some ⟨W.heap.size + 1, 0, none⟩))).setCell (p := ⟨S + 1, 14, none⟩) (Nat.le_refl _) (.pointer (some ⟨wd.heap.size + 1, 0, none⟩))
    clear R6 H6 G6 QA QB' QC QD QE B6 z3 z6 g3 g6
    generalize ((we.setCell ⟨S + 1, 13, none⟩ (.pointer (some ⟨W.heap.size + 1, 0, none⟩))).setCell ⟨S + 1, 14, none⟩ (.pointer (some ⟨wd.heap.size + 1, 0, none⟩))) = Y at row7 hands7 og7 qa qb qc qd qe b7 ⊢
    have z13 := row7.cell (i := 13) (by omega)
    simp only [r18, List.getD_cons_zero, List.getD_cons_succ] at z13
    have hdr : W.heap.size + 1 < Y.heap.size := qd.lt
    have hsy := row7.lt
    have hdw : W.heap.size + 1 < wd.heap.size := hld
    obtain ⟨g9, cap9, hv9, hg91, hg92⟩ : ∃ g9 cap9, Value.slice aG nG cG = .slice (some ⟨g9, 0, none⟩) d cap9 ∧ S + 2 ≤ g9 ∧ g9 < q := by
     obtain ⟨g9, cap9, e9, -, -⟩ := og7.form (by rw [List.length_replicate]; exact hn1)
     have := xU GLW g9 (by rw [e9]; rfl)
     rw [List.length_replicate] at e9
     exact ⟨g9, cap9, e9, this.1, this.2⟩
    simp only [Value.slice.injEq] at hv9
    obtain ⟨rfl, rfl, rfl⟩ := hv9
    have HDN := xH (fun (wx : World) (hm : wx.rowIs (W.heap.size + 1) 100 4 (rg4 (.slice (some ⟨W.heap.size, 0, none⟩) nG nG) 0 nG 0)) (hx : Exc [W.heap.size + 1] Y wx) => (show CrAt wx (S + 1) (ncCw j k nG) (ncB S q r o (W.heap.size + 1) (wd.heap.size + 1) g9 cG) ∧ Below (S + 1) X wx from by
     have hbl : ∀ x, x < Y.heap.size → x ≠ W.heap.size + 1 → wx.heap[x]? = Y.heap[x]? := fun x h1 h2 => hx.block x h1 (by simp [h2])
     obtain ⟨l1, l2, l3⟩ := xU QL
     obtain ⟨m1, m2, m3, m4⟩ := xU QN
     have k1 : (List.replicate k (⟨0, 0⟩ : Hd)).length = k := List.length_replicate
     have k2 : (List.replicate nG (-1 : Int)).length = nG := List.length_replicate
     have hog := ownsRow_base (base' := 0) (ownsRow_keepT og7 (fun g e => hbl g (og7.lt g e).2 (by have := (xU GL g e).2; omega))) (Nat.zero_le _)
     rw [k2] at hog
     refine ⟨⟨?_, ?_, ?_, ⟨rfl, ?_⟩, ?_, ?_, ?_, ⟨W.heap.size, 0, ?_, ?_⟩, ⟨_, qe.of_block (hbl _ qe.lt (by show wd.heap.size + 1 ≠ _; omega))⟩, ?_, ?_, rfl, ?_, ?_, ?_, ?_⟩, b7.trans (hx.below (by omega) (fun b hb => by simp at hb; omega))⟩
     · simp only [crRow, ncCw, ncB, k1, k2]
       exact row7.of_block (hbl _ row7.lt (by omega))
     · simp only [ncCw, ncB, k1]
       exact (hands7.of_block (hbl _ hands7.lt (by omega))).congr fun i hi => (nc_hands k i hi).symm
     · simp only [ncCw, ncB, k2]
       exact hog
     · exact Or.inl ⟨rfl, rfl⟩
     · simp only [ncCw, ncB, k1]
       exact qa.carry (hbl _ qa.lt.1 (by omega)) (hbl _ qa.lt.2 (by omega))
     · simp only [ncCw, ncB, k1]
       exact qb.carry (hbl _ qb.lt.1 (by omega)) (hbl _ qb.lt.2 (by omega))
     · simp only [ncCw, ncB]
       exact qc.carry (hbl _ qc.lt.1 (by omega)) (hbl _ qc.lt.2 (by omega))
     · simp only [ncCw, k2]; exact hn1
     · simp only [ncCw, ncB, k2]
       exact hm
     · simp only [ncCw, k1]
     · simp only [ncCw, k2]
     · simp only [ncCw, k1]; exact ⟨hk1, hk8⟩
     · simp only [ncCw, k2]; exact ⟨hn1, hn16⟩
     · exact Nat.zero_le _
     · simp only [CrB.blocks, ncB, Value.ownBlock, Option.toList_none, List.append_nil, List.nodup_cons, List.mem_cons, List.not_mem_nil, or_false, not_or, not_false_eq_true, List.nodup_nil, and_true]
       omega))
    have HF := xH (fun (q : Addr) (W2 : World) hW => fillP_any (W.heap.size + 1) W.heap.size nG q 0 W2 hW (by omega))
    have QD := xH qd
    have hmk := run_make_place nG (by omega)
    have zy : ∀ o, (Y.alloc o).cell? ⟨S + 1, 13, none⟩ = some (.pointer (some ⟨W.heap.size + 1, 0, none⟩)) := fun o => (World.cell?_of_block (a := ⟨S + 1, 13, none⟩) (Below.heap_alloc Y o _ row7.lt)).trans z13
    clear row7 hands7 og7 qa qb qc qd qe b7
    go_cut [] from 55 to 61 (fun wx => CrAt wx (S + 1) (ncCw j k nG) (ncB S q r o (W.heap.size + 1) (wd.heap.size + 1) g9 cG) ∧ Below (S + 1) X wx)
    case first =>
     go_region_with (go_at_call 100; refine (xU HF _ _ ((xU QD).alloc _).drew).mono ?_; rintro e w9 ⟨rfl, hm9, hx9⟩)
     all_goals
      have HDD := xH (xU HDN _ hm9 (Exc.trans (Exc.of_below ((Below.refl Y.heap.size Y).alloc (Nat.le_refl _) (.cells (madeCells #[] 0) 106)).drew) hx9))
      clear hm9 hx9
      go_wp2_with fail
      go_meet
      case rel => exact xU HDD
    case rest =>
     have HC := xH hcut
     clear hcut
     go_wp2_with fail
     refine bodyPost_ret (v := .tuple #[.pointer (some ⟨S + 1, 0, none⟩), .bool true]) (by simp [results, Tryz.results73, go_sem]) rfl ?_
     refine ⟨_, _, rfl, (xU HC).1, fun b hb => ?_, (xU QB).trans ((xU HC).2.mono (by omega))⟩
     obtain ⟨m1, m2, m3, m4⟩ := xU QN
     simp only [CrB.blocks, ncB, Value.ownBlock, Option.toList_none, List.append_nil, List.mem_cons, List.not_mem_nil, or_false] at hb
     omega
end Go.Proofs.YtibgjcejddpldaaGreat
