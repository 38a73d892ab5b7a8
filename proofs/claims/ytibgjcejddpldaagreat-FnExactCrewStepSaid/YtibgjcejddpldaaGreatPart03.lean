/- A part. -/
import Derived.Test.YtibgjcejddpldaaGreatPart02
namespace Go.Proofs.YtibgjcejddpldaaGreat
open Go Go.RowKit
set_option maxRecDepth 100000
set_option maxHeartbeats 3200000
theorem row_put {W : World} {L : Nat} {T : TypeId} {m : Nat} {l : List Value} (h : W.rowIs L T m (r18 l)) (i : Nat) (hi : i < l.length) (u : Value) : (W.setCell ⟨L, i, none⟩ u).rowIs L T m (r18 (l.set i u)) := (h.set i u).congr fun x _ => by
 show (if x = i then u else l.getD x undef) = (l.set i u).getD x undef
 by_cases e : x = i
 · subst e
   rw [if_pos rfl]
   simp [List.getD, hi]
 · rw [if_neg e]
   simp [List.getD, Ne.symm e]
structure SwSt (base L S : Nat) (W : World) (j k n : Int) (vH vG : Value) (hs : List Hd) (gs : List Int) : Prop where
 lt : L < base
 ltS : S < L
 row : W.rowIs L 26 18 (r18 [.int .i64 j, .int .i64 k, .int .i64 n, .int .i64 0, .int .i64 0, .slice none 0 0, vH, .int .i64 0, .slice none 0 0, .int .i64 0, vG, .int .i64 0, .slice none 0 0, .int .i64 0, .slice none 0 0, .int .i64 n, .slice (some ⟨S, 0, none⟩) 4 4, .int .i64 0])
 shut : W.rowIs S 3 4 (fun _ => .int .i64 0)
 oh : W.ownsRow base 73 2 vH hs.length (hs.map Hd.cs).flatten
 og : W.ownsRow base 3 1 vG gs.length (gs.map zcs).flatten
theorem SwSt.keep {base L S : Nat} {W W' : World} {j k n : Int} {vH vG : Value} {hs : List Hd} {gs : List Int} (h : SwSt base L S W j k n vH vG hs gs) (hb : Below W.heap.size W W') : SwSt base L S W' j k n vH vG hs gs :=
 ⟨h.lt, h.ltS, h.row.of_block (hb.block L h.row.lt), h.shut.of_block (hb.block S h.shut.lt), ownsRow_keepT h.oh (fun g e => hb.block g (h.oh.lt g e).2), ownsRow_keepT h.og (fun g e => hb.block g (h.og.lt g e).2)⟩
theorem SwSt.ne {base L S : Nat} {W : World} {j k n : Int} {vH vG : Value} {hs : List Hd} {gs : List Int} (h : SwSt base L S W j k n vH vG hs gs) (g : Nat) (h1 : vH.ownBlock = some g) (h2 : vG.ownBlock = some g) : False := by
 rcases h.oh.2 with ⟨hv, _⟩ | ⟨g1, c1, u1, hv1, _, hh1, _⟩
 · rw [hv] at h1; cases h1
 rcases h.og.2 with ⟨hv, _⟩ | ⟨g2, c2, u2, hv2, _, hh2, _⟩
 · rw [hv] at h2; cases h2
 rw [hv1] at h1; rw [hv2] at h2
 simp only [Value.ownBlock, Option.some.injEq] at h1 h2
 subst h1; subst h2
 rw [hh1] at hh2
 simp only [Option.some.injEq, Obj.cells.injEq] at hh2
 exact absurd hh2.2.1 (by decide)
theorem SwSt.addH {base L S : Nat} {W W' : World} {j k n : Int} {vH vG vH' : Value} {hs : List Hd} {gs : List Int} (h : SwSt base L S W j k n vH vG hs gs) (f : Hd) (hown : W'.ownsRow base 73 2 vH' (hs.length + 1) ((hs.map Hd.cs).flatten ++ f.cs)) (hg : W.grownBy W' vH.ownBlock) : SwSt base L S (W'.setCell ⟨L, 6, none⟩ vH') j k n vH' vG (hs ++ [f]) gs := by
 have hno : ∀ x, x < base → some x ≠ vH.ownBlock := fun x hx e => by have := (h.oh.lt x e.symm).1; omega
 have hlS : S < base := by have := h.lt; have := h.ltS; omega
 have hL := h.row.of_block (hg.block L h.row.lt (hno L h.lt))
 have hS := h.shut.of_block (hg.block S h.shut.lt (hno S hlS))
 refine ⟨h.lt, h.ltS, row_put hL 6 (by simp) vH', hS.setOther (a := ⟨L, 6, none⟩) (Nat.ne_of_lt h.ltS) vH', ?_, ?_⟩
 · refine ownsRow_setCell_below ?_ h.lt _
   rw [List.length_append, List.map_append, List.flatten_append]
   simpa using hown
 · exact ownsRow_setCell_below (ownsRow_keepT h.og (fun g e => hg.block g (h.og.lt g e).2 (fun e2 => h.ne g e2.symm e))) h.lt _
theorem SwSt.addG {base L S : Nat} {W W' : World} {j k n : Int} {vH vG vG' : Value} {hs : List Hd} {gs : List Int} (h : SwSt base L S W j k n vH vG hs gs) (z : Int) (hown : W'.ownsRow base 3 1 vG' (gs.length + 1) ((gs.map zcs).flatten ++ zcs z)) (hg : W.grownBy W' vG.ownBlock) : SwSt base L S (W'.setCell ⟨L, 10, none⟩ vG') j k n vH vG' hs (gs ++ [z]) := by
 have hno : ∀ x, x < base → some x ≠ vG.ownBlock := fun x hx e => by have := (h.og.lt x e.symm).1; omega
 have hlS : S < base := by have := h.lt; have := h.ltS; omega
 have hL := h.row.of_block (hg.block L h.row.lt (hno L h.lt))
 have hS := h.shut.of_block (hg.block S h.shut.lt (hno S hlS))
 refine ⟨h.lt, h.ltS, row_put hL 10 (by simp) vG', hS.setOther (a := ⟨L, 10, none⟩) (Nat.ne_of_lt h.ltS) vG', ?_, ?_⟩
 · exact ownsRow_setCell_below (ownsRow_keepT h.oh (fun g e => hg.block g (h.oh.lt g e).2 (fun e2 => h.ne g e e2.symm))) h.lt _
 · refine ownsRow_setCell_below ?_ h.lt _
   rw [List.length_append, List.map_append, List.flatten_append]
   simpa using hown
theorem range_row {W : World} {b : Nat} {T : TypeId} {m : Nat} (cs : List Value) (hl : cs.length = m) (h : W.rowIs b T m (r18 cs)) : W.rangeAt b 0 cs := fun i v hv => by
 have hi := (List.getElem?_eq_some_iff.1 hv).1
 rw [Nat.zero_add, h.cell (by omega)]
 show some (cs.getD i undef) = some v
 simp [List.getD, hv]
theorem infoHandM : (Tryz.prog.info? 73).map (fun i => (i.zero, i.size, i.bytes)) = some (some (.agg #[.int .i64 0, .int .i64 0]), 2, 16) := by kernel_rfl
theorem rowWorld : ∃ d, Tryz.prog.underlying 26 = some d ∧ d.isRow = true := ⟨_, Tryz.underlying26, by rfl⟩
theorem SwSt.end {base L S : Nat} {W W' : World} {j k n : Int} {vH vG : Value} {hs : List Hd} {gs : List Int} (h : SwSt base L S W j k n vH vG hs gs) (hW : ∀ b, S ≤ b → b < W.heap.size → W'.heap[b]? = W.heap[b]?) (hsz : W.heap.size ≤ W'.heap.size) :
 ∃ Fh Fg, CwOwn W' ⟨j, k, n, 0, 0, [], hs, 0, [], 0, gs, 0, [], 0, [], n, [0, 0, 0, 0], 0⟩ ⟨.slice none 0 0, vH, .slice none 0 0, vG, .slice none 0 0, .slice none 0 0, .slice (some ⟨S, 0, none⟩) 4 4⟩ [] Fh [] Fg [] [] [S] ∧ Dj7 [] Fh [] Fg [] [] [S] ∧ ∀ b, b ∈ F7 [] Fh [] Fg [] [] [S] → S ≤ b ∧ b < W'.heap.size := by
 obtain ⟨F0, h1, h2, h3, h4⟩ := FlatOwn.of_row (rs := hs.map Hd.cs) (n := 2) (by rw [List.length_map]; exact h.oh) (fun r hr => by obtain ⟨f, -, rfl⟩ := List.mem_map.1 hr; rfl)
 obtain ⟨F1, g1, g2, g3, g4⟩ := FlatOwn.of_row (rs := gs.map zcs) (n := 1) (by rw [List.length_map]; exact h.og) (fun r hr => by obtain ⟨f, -, rfl⟩ := List.mem_map.1 hr; rfl)
 have hlt := h.lt; have hls := h.ltS
 have hsh := h.shut.of_block (hW S (Nat.le_refl _) h.shut.lt)
 refine ⟨F0, F1, ⟨FlatOwn.nil _ 1, FlatOwn.carry h1 (fun b hb => hW b (by have := (h3 b hb).1; omega) (h3 b hb).2), FlatOwn.nil _ 1, FlatOwn.carry g1 (fun b hb => hW b (by have := (g3 b hb).1; omega) (g3 b hb).2), FlatOwn.nil _ 1, FlatOwn.nil _ 1, ?_⟩, ⟨fun b hb => (by cases hb), fun b hb hm => ?_, fun b hb => (by cases hb), fun b hb hm => ?_, fun b hb => (by cases hb), fun b hb => (by cases hb)⟩, fun b hb => ?_⟩
 · refine ⟨some ⟨S, 0, none⟩, 4, rfl, by simp, Or.inr ⟨S, rfl, rfl, fun o => hsh.frozen o, fun i hi x hx => ?_⟩⟩
   obtain rfl : x = 0 := by omega
   have hi' : i < 4 := hi
   rw [Nat.mul_one, Nat.add_zero, hsh.cell hi']
   rcases (show i = 0 ∨ i = 1 ∨ i = 2 ∨ i = 3 by omega) with rfl | rfl | rfl | rfl <;> rfl
 · simp only [List.nil_append, List.mem_append, List.mem_singleton] at hm
   rcases hm with hm | rfl
   · exact h.ne b (h2 b hb) (g2 b hm)
   · have := (h3 _ hb).1; omega
 · simp only [List.nil_append, List.mem_singleton] at hm
   subst hm
   have := (g3 _ hb).1; omega
 · simp only [F7, List.nil_append, List.mem_append, List.mem_singleton] at hb
   rcases hb with hb | hb | rfl
   · have := h3 b hb; omega
   · have := g3 b hb; omega
   · exact ⟨Nat.le_refl _, hsh.lt⟩
theorem heap_setCells {b : Nat} : ∀ (vs : List Value) (o : Nat) (W : World) (x : Nat), x ≠ b → (W.setCells b o vs).heap[x]? = W.heap[x]?
 | [], _, _, _, _ => rfl
 | _ :: r, o, _, x, h => (heap_setCells r (o + 1) _ x h).trans (Below.heap_setCell _ _ _ _ h)
theorem size_setCells {b : Nat} : ∀ (vs : List Value) (o : Nat) (W : World), (W.setCells b o vs).heap.size = W.heap.size
 | [], _, _ => rfl
 | _ :: r, o, _ => (size_setCells r (o + 1) _).trans (size_setCell _ _ _)
theorem specCrewStart_yes (j : Int) (k n : Nat) (w : World) (hok : stOk j k n) : Calls Tryz.prog 90 #[.int .i64 j, .int .i64 k, .int .i64 n] w fun e w' => CwEnd w w' e (stCw j k n) (decide (stOk j k n)) := by
 have HIN := xH (fun z lo hi W => frInS z lo hi W)
 have HB0 := xH (fun o => (show Below w.heap.size w (w.alloc o) from (Below.refl _ _).alloc (Nat.le_refl _) o))
 have HR6 := xH (show (w.alloc (.cells #[.int .i64 0, .int .i64 0, .int .i64 0, .int .i64 0, .int .i64 0, .slice none 0 0, .slice none 0 0, .int .i64 0, .slice none 0 0, .int .i64 0, .slice none 0 0, .int .i64 0, .slice none 0 0, .int .i64 0, .slice none 0 0, .int .i64 0, .slice none 0 0, .int .i64 0] 26)).rowIs w.heap.size 26 18 (r18 [.int .i64 0, .int .i64 0, .int .i64 0, .int .i64 0, .int .i64 0, .slice none 0 0, .slice none 0 0, .int .i64 0, .slice none 0 0, .int .i64 0, .slice none 0 0, .int .i64 0, .slice none 0 0, .int .i64 0, .slice none 0 0, .int .i64 0, .slice none 0 0, .int .i64 0]) from box18 w noCw nil7 26)
 have HE := xH (show decide (stOk j k n) = true from decide_eq_true hok)
 have H1 := xH hok.1; have H2 := xH hok.2.1; have H3 := xH hok.2.2; have HOK := xH hok
 clear hok
 go_enter Tryz.func90, Tryz.ntmps90
 go_wp2_with fail
 refine (xU HIN _ _ _ _).mono ?_
 rintro e w1 ⟨rfl, hb1⟩
 have R1 := xH ((xU HR6).of_block (hb1.block w.heap.size (by simp)))
 have B1 := xH ((xU HB0 _).trans (hb1.mono (xU HB0 _).size))
 clear hb1 HR6 HB0
 rw [decide_eq_true (xU H1)]
 go_wp2_with fail
 refine (xU HIN _ _ _ _).mono ?_
 rintro e w2 ⟨rfl, hb2⟩
 have R2 := xH ((xU R1).of_block (hb2.block _ (xU R1).lt))
 have B2 := xH ((xU B1).trans (hb2.mono (xU B1).size))
 clear hb2 R1 B1
 rw [decide_eq_true (xU H2)]
 go_wp2_with fail
 refine (xU HIN _ _ _ _).mono ?_
 rintro e w3 ⟨rfl, hb3⟩
 have R3 := xH ((xU R2).of_block (hb3.block _ (xU R2).lt))
 have B3 := xH ((xU B2).trans (hb3.mono (xU B2).size))
 clear hb3 R2 B2
 rw [decide_eq_true (xU H3)]
 go_upto_region 3 with fail
 refine wp_region_list ?_
 refine wpList_plain rfl (fun K hK => ?_); go_simp; refine hK _ _ ?_; clear hK K
 refine wpList_plain rfl (fun K hK => ?_); go_simp; refine hK _ _ ?_; clear hK K
 refine wpList_plain rfl (fun K hK => ?_); go_simp; refine hK _ _ ?_; clear hK K
 refine wpList_plain rfl (fun K hK => ?_); go_simp; refine hK _ _ ?_; clear hK K
 refine wpList_plain rfl (fun K hK => ?_); go_simp; refine hK _ _ ?_; clear hK K
 refine wpList_plain rfl (fun K hK => ?_); go_simp; refine hK _ _ ?_; clear hK K
 refine wpList_plain rfl (fun K hK => ?_); go_simp; refine hK _ _ ?_; clear hK K
 have hr0 := fun o => box18 (w3.alloc o) noCw nil7 26
 simp only [World.size_alloc] at hr0
 have hr8 : ((w3.alloc (.cells #[.int .i64 0, .int .i64 0, .int .i64 0, .int .i64 0] 3)).alloc (.cells #[.int .i64 0, .int .i64 0, .int .i64 0, .int .i64 0, .int .i64 0, .slice none 0 0, .slice none 0 0, .int .i64 0, .slice none 0 0, .int .i64 0, .slice none 0 0, .int .i64 0, .slice none 0 0, .int .i64 0, .slice none 0 0, .int .i64 0, .slice none 0 0, .int .i64 0] 26)).rowIs (w3.heap.size + 1) 26 18 (r18 [.int .i64 0, .int .i64 0, .int .i64 0, .int .i64 0, .int .i64 0, .slice none 0 0, .slice none 0 0, .int .i64 0, .slice none 0 0, .int .i64 0, .slice none 0 0, .int .i64 0, .slice none 0 0, .int .i64 0, .slice none 0 0, .int .i64 0, .slice none 0 0, .int .i64 0]) := hr0 _
 have hr4 := (World.rowIs_alloc w3 #[.int .i64 0, .int .i64 0, .int .i64 0, .int .i64 0] 3 (fun _ => .int .i64 0) (fun i hi => by
  have hi' : i < 4 := hi
  rcases (show i = 0 ∨ i = 1 ∨ i = 2 ∨ i = 3 by omega) with rfl | rfl | rfl | rfl <;> rfl)).alloc (.cells #[.int .i64 0, .int .i64 0, .int .i64 0, .int .i64 0, .int .i64 0, .slice none 0 0, .slice none 0 0, .int .i64 0, .slice none 0 0, .int .i64 0, .slice none 0 0, .int .i64 0, .slice none 0 0, .int .i64 0, .slice none 0 0, .int .i64 0, .slice none 0 0, .int .i64 0] 26)
 have hr6 := ((xU R3).alloc (.cells #[.int .i64 0, .int .i64 0, .int .i64 0, .int .i64 0] 3)).alloc (.cells #[.int .i64 0, .int .i64 0, .int .i64 0, .int .i64 0, .int .i64 0, .slice none 0 0, .slice none 0 0, .int .i64 0, .slice none 0 0, .int .i64 0, .slice none 0 0, .int .i64 0, .slice none 0 0, .int .i64 0, .slice none 0 0, .int .i64 0, .slice none 0 0, .int .i64 0] 26)
 have hbx := ((xU B3).alloc (xU B3).size (.cells #[.int .i64 0, .int .i64 0, .int .i64 0, .int .i64 0] 3)).alloc (by rw [World.size_alloc]; exact Nat.le_succ_of_le (xU B3).size) (.cells #[.int .i64 0, .int .i64 0, .int .i64 0, .int .i64 0, .int .i64 0, .slice none 0 0, .slice none 0 0, .int .i64 0, .slice none 0 0, .int .i64 0, .slice none 0 0, .int .i64 0, .slice none 0 0, .int .i64 0, .slice none 0 0, .int .i64 0, .slice none 0 0, .int .i64 0] 26)
 have hws := (xU R3).lt
 clear hr0 R3 B3
 refine wpList_store_mid rfl _ _ _ rfl (w3.heap.size + 1) 0 #[.int .i64 j, .int .i64 k, .int .i64 n, .int .i64 0, .int .i64 0, .slice none 0 0, .slice none 0 0, .int .i64 0, .slice none 0 0, .int .i64 0, .slice none 0 0, .int .i64 0, .slice none 0 0, .int .i64 0, .slice none 0 0, .int .i64 n, .slice (some ⟨w3.heap.size, 0, none⟩) 4 4, .int .i64 0] rfl rfl (there_row hr8) info18 (one18 j k n 0 0 0 0 0 0 n 0 ⟨.slice none 0 0, .slice none 0 0, .slice none 0 0, .slice none 0 0, .slice none 0 0, .slice none 0 0, .slice (some ⟨w3.heap.size, 0, none⟩) 4 4⟩ (by simp [Value.oneCell'])) ?_
 have q8 := row_all (n := 18) [.int .i64 j, .int .i64 k, .int .i64 n, .int .i64 0, .int .i64 0, .slice none 0 0, .slice none 0 0, .int .i64 0, .slice none 0 0, .int .i64 0, .slice none 0 0, .int .i64 0, .slice none 0 0, .int .i64 0, .slice none 0 0, .int .i64 n, .slice (some ⟨w3.heap.size, 0, none⟩) 4 4, .int .i64 0] rfl hr8
 have q4 := hr4.of_block (heap_setCells (b := w3.heap.size + 1) [.int .i64 j, .int .i64 k, .int .i64 n, .int .i64 0, .int .i64 0, .slice none 0 0, .slice none 0 0, .int .i64 0, .slice none 0 0, .int .i64 0, .slice none 0 0, .int .i64 0, .slice none 0 0, .int .i64 0, .slice none 0 0, .int .i64 n, .slice (some ⟨w3.heap.size, 0, none⟩) 4 4, .int .i64 0] 0 _ _ (by omega))
 have q6 := hr6.of_block (heap_setCells (b := w3.heap.size + 1) [.int .i64 j, .int .i64 k, .int .i64 n, .int .i64 0, .int .i64 0, .slice none 0 0, .slice none 0 0, .int .i64 0, .slice none 0 0, .int .i64 0, .slice none 0 0, .int .i64 0, .slice none 0 0, .int .i64 0, .slice none 0 0, .int .i64 n, .slice (some ⟨w3.heap.size, 0, none⟩) 4 4, .int .i64 0] 0 _ _ (by omega))
 have qb := below_setCells (b := w3.heap.size + 1) (by omega) [.int .i64 j, .int .i64 k, .int .i64 n, .int .i64 0, .int .i64 0, .slice none 0 0, .slice none 0 0, .int .i64 0, .slice none 0 0, .int .i64 0, .slice none 0 0, .int .i64 0, .slice none 0 0, .int .i64 0, .slice none 0 0, .int .i64 n, .slice (some ⟨w3.heap.size, 0, none⟩) 4 4, .int .i64 0] 0 _ hbx
 clear hr8 hr4 hr6 hbx
 generalize ((w3.alloc _).alloc _).setCells _ 0 _ = X at q8 q4 q6 qb ⊢
 generalize w3.heap.size = S at q8 q4 hws ⊢
 clear w3
 have HS0 := xH (show SwSt (S + 2) (S + 1) S X j k n (.slice none 0 0) (.slice none 0 0) [] [] from ⟨by omega, by omega, q8, q4, ⟨rfl, Or.inl ⟨rfl, rfl⟩⟩, ⟨rfl, Or.inl ⟨rfl, rfl⟩⟩⟩)
 have Q6 := xH q6; have QB := xH qb
 clear q8 q4 q6 qb
 have hk8 : k ≤ 8 := by have := (xU H2).2; omega
 have hn16 : n ≤ 16 := by have := (xU H3).2; omega
 obtain ⟨j3, hJ, hW0, hW1, hW2⟩ := info_parts infoHandM
 obtain ⟨j1, hI, hI0, hI1, hI2⟩ := info_parts infoIntM
 have HJ := xH hJ; have HW0 := xH hW0; have HW1 := xH hW1; have HW2 := xH hW2
 have HI := xH hI; have HI0 := xH hI0; have HI1 := xH hI1; have HI2 := xH hI2
 clear hJ hW0 hW1 hW2 hI hI0 hI1 hI2
 go_wp2_with fail
 go_loopw [9] (fun i wr => ∃ (c : Nat) (aH : Option Addr) (nH cH : Nat), c ≤ k ∧ i = .int .i64 c ∧ Hid (SwSt (S + 2) (S + 1) S wr j k n (.slice aH nH cH) (.slice none 0 0) (List.replicate c ⟨0, 0⟩) []) ∧ Hid (Below (S + 1) X wr)) (fun i _ => k - (intOf i).toNat)
 case atStart => exact ⟨0, none, 0, 0, Nat.zero_le _, rfl, HS0, xH (Below.refl _ _)⟩
 case round =>
  obtain ⟨c, aH, nH, cH, hk, rfl, HS, HB⟩ := hrel
  by_cases hlt : c < k
  · have hr := HS.out.row
    have y6 := hr.cell (i := 6) (by omega); have f6 := hr.frozen 6
    simp only [r18, List.getD_cons_zero, List.getD_cons_succ] at y6
    have hsw := (xU HB).size
    have hsl := hr.lt
    have y6a : ∀ ob, (wr.alloc ob).cell? ⟨S + 1, 6, none⟩ = some (.slice aH nH cH) := fun ob => (World.cell?_of_block (a := ⟨S + 1, 6, none⟩) (Below.heap_alloc wr ob _ hr.lt)).trans y6
    have hll : (List.replicate c (⟨0, 0⟩ : Hd)).length = c := List.length_replicate
    clear hr
    have HRS := xH (show List.replicate (c + 1) (⟨0, 0⟩ : Hd) = List.replicate c ⟨0, 0⟩ ++ [⟨0, 0⟩] from List.replicate_succ')
    generalize List.replicate c (⟨0, 0⟩ : Hd) = hsL at HS HRS hll
    go_wp2_with (at_builtin; refine append_row _ rfl _ _ 24 rfl (S + 2) 73 j3 (.agg #[.int .i64 0, .int .i64 0]) 2 16 Tryz.underlying24 (xU HJ) (xU HW0) (xU HW1) (xU HW2) rfl (by decide) (.slice aH nH cH) hsL.length (hsL.map Hd.cs).flatten rfl (World.ownsRow.alloc HS.out.oh _) ⟨wr.heap.size, 0, none⟩ 1 1 [.int .i64 0, .int .i64 0] rfl rfl (cell_twoT wr _ _ _) (fun u hu => by simp at hu; subst hu; rfl) (by decide) (by unfold maxLen; omega) (by omega) (by simp; omega) ?_; intro v' w8 hown8 hgrow8 hat8; obtain ⟨g8, cap8, rfl, hg1, hg2⟩ := hown8.form (by omega); have hr8 := HS.out.row.of_block ((hgrow8.block (S + 1) (by simp; omega) (fun e => by have := (HS.out.oh.lt (S + 1) e.symm).1; omega)).trans (Below.heap_alloc wr _ _ HS.out.row.lt)); have u1 := hr8.cell (i := 6) (by omega); have uz1 := hr8.frozen 6; simp only [r18, List.getD_cons_zero, List.getD_cons_succ] at u1; have hadd := (HS.out.keep ((Below.refl _ _).alloc (Nat.le_refl _) (.cells #[.int .i64 0, .int .i64 0] 73))).addH ⟨0, 0⟩ hown8 hgrow8; have hbx : Below (S + 1) X (w8.setCell ⟨S + 1, 6, none⟩ (.slice (some ⟨g8, 0, none⟩) (hsL.length + 1) cap8)) := (((xU HB).trans ((Below.refl _ wr).alloc (by omega) (.cells #[.int .i64 0, .int .i64 0] 73))).trans ((Below.refl (S + 1) _).grown hgrow8 (by simp; omega) (fun g e => by have := (HS.out.oh.lt g e).1; omega))).setCell (by simp) _; rw [← xU HRS] at hadd; have HAD := xH hadd; have HXX := xH hbx; clear hadd hbx hown8 hgrow8 hat8 hr8)
    go_roundw
    case rel => rw [hll] at HAD HXX; exact ⟨c + 1, some ⟨g8, 0, none⟩, c + 1, cap8, by omega, by go_num, HAD, HXX⟩
    case measure => simp [intOf]; omega
  · obtain rfl : c = k := by omega
    have HS1 := xH HS.out; have HB1 := xH HB.out
    clear HS HB HS0
    go_wp2_with fail
    go_loopw [10] (fun i wr => ∃ (d : Nat) (aG : Option Addr) (nG cG : Nat), d ≤ n ∧ i = .int .i64 d ∧ Hid (SwSt (S + 2) (S + 1) S wr j c n (.slice aH nH cH) (.slice aG nG cG) (List.replicate c ⟨0, 0⟩) (List.replicate d (-1))) ∧ Hid (Below (S + 1) X wr)) (fun i _ => n - (intOf i).toNat)
    case atStart => exact ⟨0, none, 0, 0, Nat.zero_le _, rfl, HS1, HB1⟩
    case round =>
     obtain ⟨d, aG, nG, cG, hd, rfl, HS, HB⟩ := hrel
     by_cases hlt2 : d < n
     · have hr := HS.out.row
       have y6 := hr.cell (i := 10) (by omega); have f6 := hr.frozen 10
       simp only [r18, List.getD_cons_zero, List.getD_cons_succ] at y6
       have hsw := (xU HB).size
       have hsl := hr.lt
       have y6a : ∀ ob, (wr.alloc ob).cell? ⟨S + 1, 10, none⟩ = some (.slice aG nG cG) := fun ob => (World.cell?_of_block (a := ⟨S + 1, 10, none⟩) (Below.heap_alloc wr ob _ hr.lt)).trans y6
       have hll : (List.replicate d (-1 : Int)).length = d := List.length_replicate
       clear hr
       have HRS := xH (show List.replicate (d + 1) ((-1) : Int) = List.replicate d (-1) ++ [(-1)] from List.replicate_succ')
       generalize List.replicate d ((-1) : Int) = hsL at HS HRS hll
       go_wp2_with (at_builtin; refine append_row _ rfl _ _ 23 rfl (S + 2) 3 j1 (.int .i64 0) 1 8 Tryz.underlying23 (xU HI) (xU HI0) (xU HI1) (xU HI2) rfl (by decide) (.slice aG nG cG) hsL.length (hsL.map zcs).flatten rfl (World.ownsRow.alloc HS.out.og _) ⟨wr.heap.size, 0, none⟩ 1 1 [.int .i64 (-1)] rfl rfl (cell_one wr _ _) (fun u hu => by simp at hu; subst hu; rfl) (by decide) (by unfold maxLen; omega) (by omega) (by simp; omega) ?_; intro v' w8 hown8 hgrow8 hat8; obtain ⟨g8, cap8, rfl, hg1, hg2⟩ := hown8.form (by omega); have hr8 := HS.out.row.of_block ((hgrow8.block (S + 1) (by simp; omega) (fun e => by have := (HS.out.og.lt (S + 1) e.symm).1; omega)).trans (Below.heap_alloc wr _ _ HS.out.row.lt)); have u1 := hr8.cell (i := 10) (by omega); have uz1 := hr8.frozen 10; simp only [r18, List.getD_cons_zero, List.getD_cons_succ] at u1; have hadd := (HS.out.keep ((Below.refl _ _).alloc (Nat.le_refl _) (.cells #[.int .i64 (-1)] 3))).addG (-1) hown8 hgrow8; have hbx : Below (S + 1) X (w8.setCell ⟨S + 1, 10, none⟩ (.slice (some ⟨g8, 0, none⟩) (hsL.length + 1) cap8)) := (((xU HB).trans ((Below.refl _ wr).alloc (by omega) (.cells #[.int .i64 (-1)] 3))).trans ((Below.refl (S + 1) _).grown hgrow8 (by simp; omega) (fun g e => by have := (HS.out.og.lt g e).1; omega))).setCell (by simp) _; rw [← xU HRS] at hadd; have HAD := xH hadd; have HXX := xH hbx; clear hadd hbx hown8 hgrow8 hat8 hr8)
       go_roundw
       case rel => rw [hll] at HAD HXX; exact ⟨d + 1, some ⟨g8, 0, none⟩, d + 1, cap8, by omega, by go_num, HAD, HXX⟩
       case measure => simp [intOf]; omega
     · obtain rfl : d = n := by omega
       go_upto_region 12 with fail
       refine wp_region_list ?_
       obtain ⟨dd, hdu, hdr⟩ := rowWorld
       have hr := HS.out.row
       refine wpList_load_mid rfl _ _ rfl (S + 1) 0 rfl [.int .i64 j, .int .i64 c, .int .i64 d, .int .i64 0, .int .i64 0, .slice none 0 0, .slice aH nH cH, .int .i64 0, .slice none 0 0, .int .i64 0, .slice aG nG cG, .int .i64 0, .slice none 0 0, .int .i64 0, .slice none 0 0, .int .i64 d, .slice (some ⟨S, 0, none⟩) 4 4, .int .i64 0] dd (range_row [.int .i64 j, .int .i64 c, .int .i64 d, .int .i64 0, .int .i64 0, .slice none 0 0, .slice aH nH cH, .int .i64 0, .slice none 0 0, .int .i64 0, .slice aG nG cG, .int .i64 0, .slice none 0 0, .int .i64 0, .slice none 0 0, .int .i64 d, .slice (some ⟨S, 0, none⟩) 4 4, .int .i64 0] rfl hr) hdu hdr info18 ?_
       have q6 := (xU Q6).of_block ((xU HB).block _ (by omega))
       have hbw := (xU QB).trans ((xU HB).mono (by omega))
       refine wpList_store_mid rfl _ _ _ rfl w.heap.size 0 #[.int .i64 j, .int .i64 c, .int .i64 d, .int .i64 0, .int .i64 0, .slice none 0 0, .slice aH nH cH, .int .i64 0, .slice none 0 0, .int .i64 0, .slice aG nG cG, .int .i64 0, .slice none 0 0, .int .i64 0, .slice none 0 0, .int .i64 d, .slice (some ⟨S, 0, none⟩) 4 4, .int .i64 0] rfl rfl (there_row q6) info18 (one18 j c d 0 0 0 0 0 0 d 0 ⟨.slice none 0 0, .slice aH nH cH, .slice none 0 0, .slice aG nG cG, .slice none 0 0, .slice none 0 0, .slice (some ⟨S, 0, none⟩) 4 4⟩ (by simp [Value.oneCell'])) ?_
       have hr2 := row_all (n := 18) [.int .i64 j, .int .i64 c, .int .i64 d, .int .i64 0, .int .i64 0, .slice none 0 0, .slice aH nH cH, .int .i64 0, .slice none 0 0, .int .i64 0, .slice aG nG cG, .int .i64 0, .slice none 0 0, .int .i64 0, .slice none 0 0, .int .i64 d, .slice (some ⟨S, 0, none⟩) 4 4, .int .i64 0] rfl q6
       have hb2 := below_setCells (Nat.le_refl w.heap.size) [.int .i64 j, .int .i64 c, .int .i64 d, .int .i64 0, .int .i64 0, .slice none 0 0, .slice aH nH cH, .int .i64 0, .slice none 0 0, .int .i64 0, .slice aG nG cG, .int .i64 0, .slice none 0 0, .int .i64 0, .slice none 0 0, .int .i64 d, .slice (some ⟨S, 0, none⟩) 4 4, .int .i64 0] 0 wr hbw
       have hend := HS.out.end (W' := wr.setCells w.heap.size 0 [.int .i64 j, .int .i64 c, .int .i64 d, .int .i64 0, .int .i64 0, .slice none 0 0, .slice aH nH cH, .int .i64 0, .slice none 0 0, .int .i64 0, .slice aG nG cG, .int .i64 0, .slice none 0 0, .int .i64 0, .slice none 0 0, .int .i64 d, .slice (some ⟨S, 0, none⟩) 4 4, .int .i64 0]) (fun b hb _ => heap_setCells _ _ _ _ (by omega)) (by rw [size_setCells]; exact Nat.le_refl _)
       generalize wr.setCells w.heap.size 0 _ = W at hr2 hb2 hend ⊢
       clear hr q6 hbw hdu hdr
       have HB2 := xH hb2; have HEND := xH hend
       clear hb2 hend
       go_wp2_with fail
       refine bodyPost_ret (v := .tuple #[.agg #[.int .i64 j, .int .i64 c, .int .i64 d, .int .i64 0, .int .i64 0, .slice none 0 0, .slice aH nH cH, .int .i64 0, .slice none 0 0, .int .i64 0, .slice aG nG cG, .int .i64 0, .slice none 0 0, .int .i64 0, .slice none 0 0, .int .i64 d, .slice (some ⟨S, 0, none⟩) 4 4, .int .i64 0], .bool true]) (results18 (by rfl) _ _ w.heap.size [.int .i64 j, .int .i64 c, .int .i64 d, .int .i64 0, .int .i64 0, .slice none 0 0, .slice aH nH cH, .int .i64 0, .slice none 0 0, .int .i64 0, .slice aG nG cG, .int .i64 0, .slice none 0 0, .int .i64 0, .slice none 0 0, .int .i64 d, .slice (some ⟨S, 0, none⟩) 4 4, .int .i64 0] _ rfl rfl hr2 rfl) rfl ?_
       obtain ⟨Fh, Fg, e1, e2, e3⟩ := xU HEND
       have hcw : stCw j c d = ⟨j, c, d, 0, 0, [], List.replicate c ⟨0, 0⟩, 0, [], 0, List.replicate d (-1), 0, [], 0, [], d, [0, 0, 0, 0], 0⟩ := if_pos (xU HOK)
       rw [hcw, xU HE]
       exact ⟨_, [], Fh, [], Fg, [], [], [S], rfl, e1, e2, fun b hb => ⟨by have := (e3 b hb).1; omega, (e3 b hb).2⟩, xU HB2⟩

structure RgAt (W : World) (b p n : Nat) (l : List Int) (s : Int) : Prop where
 ex : ∃ (f : Nat) (g : Nat → Int), f < n ∧ W.rowIs b 102 4 (rg4 (.slice (some ⟨p, 0, none⟩) n n) f l.length s) ∧ W.rowIs p 3 n (fun i => .int .i64 (g i)) ∧ ∀ i, (hi : i < l.length) → g ((f + i) % n) = l[i]
 le : l.length ≤ n
 small : n ≤ 16
theorem RgAt.carry {W W' : World} {b p n : Nat} {l : List Int} {s : Int} (h : RgAt W b p n l s) (h1 : W'.heap[b]? = W.heap[b]?) (h2 : W'.heap[p]? = W.heap[p]?) : RgAt W' b p n l s := by
 obtain ⟨⟨f, g, hf, hb, hp, hg⟩, hl, hn⟩ := h
 exact ⟨⟨f, g, hf, hb.of_block h1, hp.of_block h2, hg⟩, hl, hn⟩
theorem RgAt.lt {W : World} {b p n : Nat} {l : List Int} {s : Int} (h : RgAt W b p n l s) : b < W.heap.size ∧ p < W.heap.size := by
 obtain ⟨⟨f, g, hf, hb, hp, hg⟩, hl, hn⟩ := h
 exact ⟨hb.lt, hp.lt⟩
theorem RgAt.ne {W : World} {b p n : Nat} {l : List Int} {s : Int} (h : RgAt W b p n l s) : b ≠ p := by
 obtain ⟨⟨f, g, hf, ⟨c, hb, -⟩, ⟨d, hp, -⟩, hg⟩, hl, hn⟩ := h
 rintro rfl
 rw [hb] at hp
 simp only [Option.some.injEq, Obj.cells.injEq] at hp
 exact absurd hp.2.1 (by decide)
theorem RgAt.below {W W' : World} {b p n : Nat} {l : List Int} {s : Int} (h : RgAt W b p n l s) (hb : Below W.heap.size W W') : RgAt W' b p n l s := h.carry (hb.block _ h.lt.1) (hb.block _ h.lt.2)
theorem RgAt.new {W : World} {b p n : Nat} (hn : 0 < n) (h16 : n ≤ 16) (h1 : W.rowIs b 102 4 (rg4 (.slice (some ⟨p, 0, none⟩) n n) 0 0 0)) (h2 : W.rowIs p 3 n (fun _ => .int .i64 0)) : RgAt W b p n [] 0 :=
 ⟨⟨0, fun _ => 0, hn, h1, h2, fun i hi => (by cases hi)⟩, Nat.zero_le _, h16⟩
theorem RgAt.other {W : World} {b p n C o : Nat} {l : List Int} {s : Int} (h : RgAt W b p n l s) (h1 : b ≠ C) (h2 : p ≠ C) (u : Value) : RgAt (W.setCell ⟨C, o, none⟩ u) b p n l s :=
 h.carry (Below.heap_setCell _ _ _ _ h1) (Below.heap_setCell _ _ _ _ h2)
structure CrB where
 (H Q Qp R Rp O Op M T G cg : Nat) (aT : Option Addr) (cT : Nat)
def CrB.blocks (C : Nat) (B : CrB) : List Nat := [C, B.H, B.Q, B.Qp, B.R, B.Rp, B.O, B.Op, B.M, B.T, B.G] ++ (Value.slice B.aT 0 0).ownBlock.toList
def crRow (c : Cw) (B : CrB) : List Value := [.int .i64 c.jobs, .int .i64 c.next, .int .i64 c.reader, .pointer (some ⟨B.Q, 0, none⟩), .slice (some ⟨B.H, 0, none⟩) c.hands.length c.hands.length, .int .i64 c.closer, .pointer (some ⟨B.R, 0, none⟩), .int .i64 c.keeper, .slice (some ⟨B.G, 0, none⟩) c.ring.length B.cg, .int .i64 c.due, .pointer (some ⟨B.O, 0, none⟩), .int .i64 c.user, .slice B.aT c.got.length B.cT, .pointer (some ⟨B.M, 0, none⟩), .pointer (some ⟨B.T, 0, none⟩), .int .i64 c.ops]
structure CrAt (W : World) (C : Nat) (c : Cw) (B : CrB) : Prop where
 row : W.rowIs C 78 16 (r18 (crRow c B))
 hands : W.rowIs B.H 73 (c.hands.length * 2) (r18 (c.hands.map Hd.cs).flatten)
 ring : W.ownsRow 0 3 1 (.slice (some ⟨B.G, 0, none⟩) c.ring.length B.cg) c.ring.length (c.ring.map zcs).flatten
 got : W.ownsRow 0 3 1 (.slice B.aT c.got.length B.cT) c.got.length (c.got.map zcs).flatten
 q : RgAt W B.Q B.Qp c.hands.length c.queue (c.shut.getD 0 0)
 r : RgAt W B.R B.Rp c.hands.length c.results (c.shut.getD 1 0)
 o : RgAt W B.O B.Op 1 c.out (c.shut.getD 2 0)
 m : ∃ p f : Nat, f < c.ring.length ∧ W.rowIs B.M 100 4 (rg4 (.slice (some ⟨p, 0, none⟩) c.ring.length c.ring.length) f c.room 0)
 t : ∃ v, W.rowIs B.T 100 4 (rg4 v 0 0 (c.shut.getD 3 0))
 wk : c.workers = c.hands.length
 wn : c.window = c.ring.length
 sh : c.shut.length = 4
 szH : 0 < c.hands.length ∧ c.hands.length ≤ 8
 szG : 0 < c.ring.length ∧ c.ring.length ≤ 16
 szT : c.got.length ≤ 1000
 dj : (CrB.blocks C B).Nodup
theorem CrAt.carry {W W' : World} {C : Nat} {c : Cw} {B : CrB} (h : CrAt W C c B) (hW : ∀ b, b ∈ CrB.blocks C B → W'.heap[b]? = W.heap[b]?) : CrAt W' C c B := by
 obtain ⟨h1, h2, h3, h4, h5, h6, h7, ⟨p, f, hf, h8⟩, ⟨v, h9⟩, a1, a2, a3, a4, a5, a6, a7⟩ := h
 have hm : ∀ b, b ∈ [C, B.H, B.Q, B.Qp, B.R, B.Rp, B.O, B.Op, B.M, B.T, B.G] → W'.heap[b]? = W.heap[b]? := fun b hb => hW b (List.mem_append_left _ hb)
 exact ⟨h1.of_block (hm _ (by simp)), h2.of_block (hm _ (by simp)), ownsRow_keepT h3 (fun g e => by simp only [Value.ownBlock, Option.some.injEq] at e; subst e; exact hm _ (by simp)), ownsRow_keepT h4 (fun g e => hW g (List.mem_append_right _ (by
  cases ha : B.aT with
  | none => rw [ha] at e; cases e
  | some ad => rw [ha] at e; simp only [Value.ownBlock, Option.some.injEq] at e ⊢; simp [e]))), h5.carry (hm _ (by simp)) (hm _ (by simp)), h6.carry (hm _ (by simp)) (hm _ (by simp)), h7.carry (hm _ (by simp)) (hm _ (by simp)), ⟨p, f, hf, h8.of_block (hm _ (by simp))⟩, ⟨v, h9.of_block (hm _ (by simp))⟩, a1, a2, a3, a4, a5, a6, a7⟩
theorem CrAt.lt {W : World} {C : Nat} {c : Cw} {B : CrB} (h : CrAt W C c B) : ∀ b, b ∈ CrB.blocks C B → b < W.heap.size := by
 obtain ⟨h1, h2, h3, h4, h5, h6, h7, ⟨p, f, hf, h8⟩, ⟨v, h9⟩, a1, a2, a3, a4, a5, a6, a7⟩ := h
 intro b hb
 simp only [CrB.blocks, List.mem_append, List.mem_cons, List.not_mem_nil, or_false] at hb
 rcases hb with (rfl | rfl | rfl | rfl | rfl | rfl | rfl | rfl | rfl | rfl | rfl) | hb
 · exact h1.lt
 · exact h2.lt
 · exact h5.lt.1
 · exact h5.lt.2
 · exact h6.lt.1
 · exact h6.lt.2
 · exact h7.lt.1
 · exact h7.lt.2
 · exact h8.lt
 · exact h9.lt
 · exact (h3.lt _ rfl).2
 · cases ha : B.aT with
   | none => rw [ha] at hb; simp [Value.ownBlock] at hb
   | some ad =>
     rw [ha] at hb h4
     simp only [Value.ownBlock, Option.toList_some, List.mem_singleton] at hb
     subst hb
     exact (h4.lt _ rfl).2
theorem CrAt.below {W W' : World} {C : Nat} {c : Cw} {B : CrB} (h : CrAt W C c B) (hb : Below W.heap.size W W') : CrAt W' C c B := h.carry fun b hm => hb.block b (h.lt b hm)
end Go.Proofs.YtibgjcejddpldaaGreat
