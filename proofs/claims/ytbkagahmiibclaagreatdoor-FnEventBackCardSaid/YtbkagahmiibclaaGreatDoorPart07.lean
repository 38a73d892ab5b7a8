/- The walk of the specification's l5Tree, where it reads no kids or at most one: some tree, in blocks of its own. Draws at most 10^6. -/
import Derived.Test.YtbkagahmiibclaaGreatDoorPart06
namespace Go.Proofs.YtbkagahmiibclaaGreatDoor
open Go Go.RowKit

theorem infoTreeD : (Tryz.prog.info? 26).map (fun i => (i.zero, i.size, i.bytes)) = some (some (.agg #[.int .i64 0, .int .i64 0, .string ByteArray.empty, .slice none 0 0, .slice none 0 0]), 5, 80) := by kernel_rfl
theorem Own.leafD (w : World) (s n : Int) (tx : ByteArray) (hs : I64 s) (hn : I64 n) (ht : tx.size ≤ 9223372036854775807) : Own w (.mk s n tx [] []) ⟨.int .i64 s, .int .i64 n, .string tx, .slice none 0 0, .slice none 0 0⟩ [] :=
  Own.make (t := .mk s n tx [] []) (F1 := []) (F2 := []) rfl rfl rfl hs hn ht ⟨none, 0, rfl, by simp [Tr.names], Or.inl ⟨rfl, rfl⟩⟩ ⟨none, 0, rfl, by simp [Tr.kids], Or.inl ⟨rfl, rfl⟩⟩

/-- What drawing a tree comes to. -/
def TsEnd (N R : Nat) (w w' : World) (v : Value) (b : List UInt8) (p : Nat) (e : Ending) : Prop :=
  ∃ (t : Tr) (c : C5) (F : List Nat) (p' : Nat), e = .returned (.agg #[c.c0, c.c1, c.c2, c.c3, c.c4]) ∧ Own w' t c F ∧ F.Nodup ∧ (∀ x, x ∈ F → w.heap.size ≤ x ∧ x < w'.heap.size) ∧ DR R w' v b p' ∧ p' ≤ p + N ∧ But R w w' ∧ tsz t ≤ N ∧ nmT t

def LtSaid (n : Nat) : Prop := ∀ (k : Kd), ksz k < n → ∀ (P : Nat → Prop) (c : C3) (w : World) (R : Nat) (v : Value) (b : List UInt8) (p : Nat), (∀ x, P x → x < w.heap.size ∧ x ≠ R) → KRep P w k c → okD k = true → DR R w v b p → p + ndr k ≤ 1000000 →
  Calls Tryz.prog 54 #[.pointer (some ⟨R, 0, none⟩), .agg #[c.c0, c.c1, c.c2]] w fun e w' => TsEnd (ndr k) R w w' v b p e

/-- The answer is put into its box. -/
theorem ts_end {N R : Nat} {w W : World} {v : Value} {b : List UInt8} {p p' : Nat} {t : Tr} {c : C5} {F : List Nat} (hR : R < w.heap.size) (ho : Own W t c F) (hnd : F.Nodup) (hF : ∀ x, x ∈ F → w.heap.size + 2 < x ∧ x < W.heap.size) (hd : DR R W v b p') (h1 : p' ≤ p + N) (hb : But R w W) (hsz : tsz t ≤ N ∧ nmT t) (c0 c1 c2 c3 c4 : Value) :
    TsEnd N R w (((((W.setCell ⟨w.heap.size + 1, 0, none⟩ c0).setCell ⟨w.heap.size + 1, 1, none⟩ c1).setCell ⟨w.heap.size + 1, 2, none⟩ c2).setCell ⟨w.heap.size + 1, 3, none⟩ c3).setCell ⟨w.heap.size + 1, 4, none⟩ c4) v b p (.returned (.agg #[c.c0, c.c1, c.c2, c.c3, c.c4])) := by
  refine ⟨t, c, F, p', rfl, Own.carry _ _ F (fun y hy => by have := (hF y hy).1; repeat rw [Below.heap_setCell _ _ _ _ (by simp; omega)]) ho, hnd, fun x hx => ⟨by have := (hF x hx).1; omega, by simp only [size_setCell]; exact (hF x hx).2⟩, ?_, h1, ?_, hsz⟩
  · repeat refine DR.set ?_ (by omega) _ _
    exact hd
  · repeat refine but_setx ?_ (by omega) _ _
    exact hb

/-- How the walk begins: the boxes of the schema, of the answer, of the tree. -/
structure LS (w W0 : World) (s : Int) (vN vK : Value) : Prop where
  size : W0.heap.size = w.heap.size + 3
  bl : Below w.heap.size w W0
  r0 : W0.rowIs w.heap.size 83 3 (row3 (.int .i64 s) vN vK)
  r1 : W0.rowIs (w.heap.size + 1) 26 5 (row5 (.int .i64 0) (.int .i64 0) (.string ⟨#[]⟩) (.slice none 0 0) (.slice none 0 0))
  r2 : W0.rowIs (w.heap.size + 2) 26 5 (row5 (.int .i64 s) (.int .i64 0) (.string ⟨#[]⟩) (.slice none 0 0) (.slice none 0 0))
theorem LS.start (w : World) (s : Int) (vN vK : Value) : LS w (((w.alloc (.cells #[.int .i64 s, vN, vK] 83)).alloc (.cells #[.int .i64 0, .int .i64 0, .string ⟨#[]⟩, .slice none 0 0, .slice none 0 0] 26)).alloc (.cells #[.int .i64 s, .int .i64 0, .string ⟨#[]⟩, .slice none 0 0, .slice none 0 0] 26)) s vN vK := by
  refine ⟨by simp, (((Below.refl _ _).alloc (Nat.le_refl _) _).alloc (by simp) _).alloc (by simp; omega) _, ((row3_alloc w _ _ _ _).alloc _).alloc _, ?_, ?_⟩
  · have q := row5_alloc (w.alloc (.cells #[.int .i64 s, vN, vK] 83)) (.int .i64 0) (.int .i64 0) (.string ⟨#[]⟩) (.slice none 0 0) (.slice none 0 0) 26
    rw [World.size_alloc] at q
    exact q.alloc _
  · have q := row5_alloc ((w.alloc (.cells #[.int .i64 s, vN, vK] 83)).alloc (.cells #[.int .i64 0, .int .i64 0, .string ⟨#[]⟩, .slice none 0 0, .slice none 0 0] 26)) (.int .i64 s) (.int .i64 0) (.string ⟨#[]⟩) (.slice none 0 0) (.slice none 0 0) 26
    rw [World.size_alloc, World.size_alloc] at q
    exact q

/-- A tree without kids is put into its box, one of its cells having been set. -/
theorem lt_leaf {N R : Nat} {w W0 W : World} {v : Value} {b : List UInt8} {p p' : Nat} {s z : Int} {tx : ByteArray} {vN vK : Value} (hs : I64 s) (hz : I64 z) (ht : tx.size ≤ 9223372036854775807) (hR : R < w.heap.size) (hL : LS w W0 s vN vK) (hd : DR R W v b p') (h1 : p' ≤ p + N) (hN : 1 ≤ N) (hb : But R W0 W) (o : Nat) (u : Value) (c0 c1 c2 c3 c4 : Value) :
    TsEnd N R w ((((((W.setCell ⟨w.heap.size + 2, o, none⟩ u).setCell ⟨w.heap.size + 1, 0, none⟩ c0).setCell ⟨w.heap.size + 1, 1, none⟩ c1).setCell ⟨w.heap.size + 1, 2, none⟩ c2).setCell ⟨w.heap.size + 1, 3, none⟩ c3).setCell ⟨w.heap.size + 1, 4, none⟩ c4) v b p (.returned (.agg #[.int .i64 s, .int .i64 z, .string tx, .slice none 0 0, .slice none 0 0])) :=
  ts_end (t := .mk s z tx [] []) (c := ⟨_, _, _, _, _⟩) (F := []) hR (Own.leafD _ s z tx hs hz ht) List.nodup_nil (fun x hx => by cases hx) (hd.set (by omega) _ _) h1 (but_setx ((But.of_below hL.bl).trans hb) (by omega) _ _) ⟨by simp [tsz, lsz]; omega, by simp [nmT, nmK]⟩ c0 c1 c2 c3 c4

set_option maxRecDepth 100000 in
set_option maxHeartbeats 3200000 in
theorem lt_123 (k : Kd) (hk : k.sort = 1 ∨ k.sort = 2 ∨ k.sort = 3) (P : Nat → Prop) (c : C3) (w : World) (R : Nat) (v : Value) (b : List UInt8) (p : Nat) (hrep : KRep P w k c) (hd : DR R w v b p) (hp : p + ndr k ≤ 1000000) :
    Calls Tryz.prog 54 #[.pointer (some ⟨R, 0, none⟩), .agg #[c.c0, c.c1, c.c2]] w fun e w' => TsEnd (ndr k) R w w' v b p e := by
  have hnd : 3 ≤ ndr k := by rw [nd_eq]; omega
  have hR := hd.cells.lt
  obtain ⟨c0, c1, c2⟩ := c
  obtain ⟨e0, hi0, hns, a, cap, e2, -, hks⟩ := hrep.open
  simp only at e0 e2 hns
  obtain ⟨a3, cap3, e1, -, hnc⟩ := hns
  subst e0 e1 e2
  have hstart := fun s => LS.start w s (.slice a3 k.names.length cap3) (.slice a k.kids.length cap)
  have HST := hide hstart; have HD := hide hd
  clear hks hnc hrep hd hstart hi0
  generalize k.names.length = nN at *
  generalize k.kids.length = nK at *
  generalize ndr k = N at *
  rcases hk with hk | hk | hk
  all_goals
    rw [hk]
    clear hk
    go_enter Tryz.func54, Tryz.ntmps54
    go_wp2_with fail
  · have hL := unhide HST 1
    generalize hW0 : (((w.alloc (.cells #[.int .i64 1, .slice a3 nN cap3, .slice a nK cap] 83)).alloc (.cells #[.int .i64 0, .int .i64 0, .string ⟨#[]⟩, .slice none 0 0, .slice none 0 0] 26)).alloc (.cells #[.int .i64 1, .int .i64 0, .string ⟨#[]⟩, .slice none 0 0, .slice none 0 0] 26)) = W0 at *
    clear hW0
    refine (l5Num_any R W0 v b p ((unhide HD).on hL.bl) (by omega)).mono ?_
    rintro e w1 ⟨z, p', rfl, hz, hp', HD1, HB1⟩
    have r1 := hL.r1.of_block (HB1.out.at hL.r1.lt (by omega)); have r2 := hL.r2.of_block (HB1.out.at hL.r2.lt (by omega))
    have y0 := r1.cell (i := 0) (by omega); have y1 := r1.cell (i := 1) (by omega); have y2 := r1.cell (i := 2) (by omega); have y3 := r1.cell (i := 3) (by omega); have y4 := r1.cell (i := 4) (by omega); have yf := r1.frozen
    have t0 := r2.cell (i := 0) (by omega); have t1 := r2.cell (i := 1) (by omega); have t2 := r2.cell (i := 2) (by omega); have t3 := r2.cell (i := 3) (by omega); have t4 := r2.cell (i := 4) (by omega); have tf := r2.frozen
    simp only [row5] at y0 y1 y2 y3 y4 t0 t1 t2 t3 t4
    have HEND := hide (fun c0 c1 c2 c3 c4 => lt_leaf (N := N) (p := p) (s := 1) (tx := ⟨#[]⟩) ⟨by decide, by decide⟩ hz (by decide) hR hL HD1.out (by omega) (by omega) HB1.out 1 (.int .i64 z) c0 c1 c2 c3 c4)
    clear r1 r2 HD1 HB1 hL HST HD
    go_wp2_with fail
    refine bodyPost_ret (v := .agg #[.int .i64 1, .int .i64 z, .string ⟨#[]⟩, .slice none 0 0, .slice none 0 0]) (by simp [results, Tryz.results54, go_sem, y0, y1, y2, y3, y4]) rfl ?_
    exact unhide HEND _ _ _ _ _
  · have hL := unhide HST 2
    generalize hW0 : (((w.alloc (.cells #[.int .i64 2, .slice a3 nN cap3, .slice a nK cap] 83)).alloc (.cells #[.int .i64 0, .int .i64 0, .string ⟨#[]⟩, .slice none 0 0, .slice none 0 0] 26)).alloc (.cells #[.int .i64 2, .int .i64 0, .string ⟨#[]⟩, .slice none 0 0, .slice none 0 0] 26)) = W0 at *
    clear hW0
    refine (l5Text_any R W0 v b p ((unhide HD).on hL.bl) (by omega)).mono ?_
    rintro e w1 ⟨z, p', rfl, hz, hp', HD1, HB1⟩
    have r1 := hL.r1.of_block (HB1.out.at hL.r1.lt (by omega)); have r2 := hL.r2.of_block (HB1.out.at hL.r2.lt (by omega))
    have y0 := r1.cell (i := 0) (by omega); have y1 := r1.cell (i := 1) (by omega); have y2 := r1.cell (i := 2) (by omega); have y3 := r1.cell (i := 3) (by omega); have y4 := r1.cell (i := 4) (by omega); have yf := r1.frozen
    have t0 := r2.cell (i := 0) (by omega); have t1 := r2.cell (i := 1) (by omega); have t2 := r2.cell (i := 2) (by omega); have t3 := r2.cell (i := 3) (by omega); have t4 := r2.cell (i := 4) (by omega); have tf := r2.frozen
    simp only [row5] at y0 y1 y2 y3 y4 t0 t1 t2 t3 t4
    have HEND := hide (fun c0 c1 c2 c3 c4 => lt_leaf (N := N) (p := p) (s := 2) (z := 0) (tx := z) ⟨by decide, by decide⟩ ⟨by decide, by decide⟩ (by omega) hR hL HD1.out (by omega) (by omega) HB1.out 2 (.string z) c0 c1 c2 c3 c4)
    clear r1 r2 HD1 HB1 hL HST HD
    go_wp2_with fail
    refine bodyPost_ret (v := .agg #[.int .i64 2, .int .i64 0, .string z, .slice none 0 0, .slice none 0 0]) (by simp [results, Tryz.results54, go_sem, y0, y1, y2, y3, y4]) rfl ?_
    exact unhide HEND _ _ _ _ _
  · have hL := unhide HST 3
    generalize hW0 : (((w.alloc (.cells #[.int .i64 3, .slice a3 nN cap3, .slice a nK cap] 83)).alloc (.cells #[.int .i64 0, .int .i64 0, .string ⟨#[]⟩, .slice none 0 0, .slice none 0 0] 26)).alloc (.cells #[.int .i64 3, .int .i64 0, .string ⟨#[]⟩, .slice none 0 0, .slice none 0 0] 26)) = W0 at *
    clear hW0
    refine (pick_any R W0 v b p 2 ((unhide HD).on hL.bl) (by omega) (by omega)).mono ?_
    rintro e w1 ⟨z, rfl, hz, HD1, HB1⟩
    have r1 := hL.r1.of_block (HB1.out.at hL.r1.lt (by omega)); have r2 := hL.r2.of_block (HB1.out.at hL.r2.lt (by omega))
    have y0 := r1.cell (i := 0) (by omega); have y1 := r1.cell (i := 1) (by omega); have y2 := r1.cell (i := 2) (by omega); have y3 := r1.cell (i := 3) (by omega); have y4 := r1.cell (i := 4) (by omega); have yf := r1.frozen
    have t0 := r2.cell (i := 0) (by omega); have t1 := r2.cell (i := 1) (by omega); have t2 := r2.cell (i := 2) (by omega); have t3 := r2.cell (i := 3) (by omega); have t4 := r2.cell (i := 4) (by omega); have tf := r2.frozen
    simp only [row5] at y0 y1 y2 y3 y4 t0 t1 t2 t3 t4
    have HEND := hide (fun c0 c1 c2 c3 c4 => lt_leaf (N := N) (p := p) (s := 3) (z := (z : Int)) (tx := ⟨#[]⟩) ⟨by decide, by decide⟩ ⟨by omega, by omega⟩ (by decide) hR hL HD1.out (by omega) (by omega) HB1.out 1 (.int .i64 (z : Int)) c0 c1 c2 c3 c4)
    clear r1 r2 HD1 HB1 hL HST HD
    go_wp2_with fail
    refine bodyPost_ret (v := .agg #[.int .i64 3, .int .i64 (z : Int), .string ⟨#[]⟩, .slice none 0 0, .slice none 0 0]) (by simp [results, Tryz.results54, go_sem, y0, y1, y2, y3, y4]) rfl ?_
    exact unhide HEND _ _ _ _ _
end Go.Proofs.YtbkagahmiibclaaGreatDoor

/- The walk of the specification's l5Tree, further: lists. Draws at most 10^6. -/

namespace Go.Proofs.YtbkagahmiibclaaGreatDoor
open Go Go.RowKit

theorem nds_one : ∀ (ks : List Kd) (h : ks.length = 1), nds ks = ndr (ks[0]'(by omega))
  | [], h => by simp at h
  | [k], _ => by simp [nds]
  | _ :: _ :: _, h => by simp at h

theorem Own.single {w' : World} {g : Nat} {s : Int} {tk : Tr} {c : C5} {F : List Nat} (hs : I64 s) (hrow : w'.rowIs g 26 5 (row5 c.c0 c.c1 c.c2 c.c3 c.c4)) (ho : Own w' tk c F) :
    Own w' (.mk s 0 ByteArray.empty [] [tk]) ⟨.int .i64 s, .int .i64 0, .string ByteArray.empty, .slice none 0 0, .slice (some ⟨g, 0, none⟩) 1 1⟩ (g :: F) :=
  Own.make (t := .mk s 0 ByteArray.empty [] [tk]) (F1 := []) (F2 := g :: F) rfl rfl rfl hs (show I64 0 from ⟨by decide, by decide⟩) (by simp [Tr.text]) ⟨none, 0, rfl, by simp [Tr.names], Or.inl ⟨rfl, rfl⟩⟩
    ⟨some ⟨g, 0, none⟩, 1, rfl, by simp [Tr.kids], Or.inr ⟨g, F, rfl, rfl, fun o => hrow.frozen o, by
      show OwnK w' g 0 [tk] F
      rw [OwnK]
      exact ⟨F, [], c, by simp, ⟨hrow.cell (i := 0) (by omega), hrow.cell (i := 1) (by omega), hrow.cell (i := 2) (by omega), hrow.cell (i := 3) (by omega), hrow.cell (i := 4) (by omega)⟩, ho, by rw [OwnK]⟩⟩⟩

/-- A kid more was appended, and put into the tree's cell. -/
theorem kid_push {R j q' g2 capK cap2 : Nat} {w W0 wc w6 w8 : World} {s : Int} {vN : Value} {aK : Option Addr} {ns : List ByteArray} {ts : List Tr} {xs : List Value} {G F : List Nat} {tk : Tr} {d : C5} {v : Value} {b : List UInt8} (hR : R < w.heap.size)
    (hS5 : SInv (w.heap.size + 3) (w.heap.size + 2) wc s vN (.slice aK j capK) ns ts xs G) (hS6 : SInv (w.heap.size + 3) (w.heap.size + 2) w6 s vN (.slice aK j capK) ns ts xs G) (hO : Own w6 tk d F) (hnd : F.Nodup) (hF : ∀ x, x ∈ F → wc.heap.size ≤ x ∧ x < w6.heap.size) (hD : DR R w6 v b q') (hB : BB R (w.heap.size + 2) W0 w6) (hl : ts.length = j)
    (hown : w8.ownsRow (w.heap.size + 3) 26 5 (.slice (some ⟨g2, 0, none⟩) (j + 1) cap2) (j + 1) (xs ++ c5l d)) (hg : (w6.alloc (.cells #[d.c0, d.c1, d.c2, d.c3, d.c4] 26)).grownBy w8 (Value.slice aK j capK).ownBlock) (hat : (Value.slice aK j capK).ownBlock = some g2 ∨ g2 = w6.heap.size + 1) :
    SInv (w.heap.size + 3) (w.heap.size + 2) (w8.setCell ⟨w.heap.size + 2, 4, none⟩ (.slice (some ⟨g2, 0, none⟩) (j + 1) cap2)) s vN (.slice (some ⟨g2, 0, none⟩) (j + 1) cap2) ns (ts ++ [tk]) (xs ++ c5l d) (G ++ F) ∧ DR R (w8.setCell ⟨w.heap.size + 2, 4, none⟩ (.slice (some ⟨g2, 0, none⟩) (j + 1) cap2)) v b q' ∧ BB R (w.heap.size + 2) W0 (w8.setCell ⟨w.heap.size + 2, 4, none⟩ (.slice (some ⟨g2, 0, none⟩) (j + 1) cap2)) := by
  have hz6 : ∀ o, (w6.alloc o).heap.size = w6.heap.size + 1 := fun o => World.size_alloc _ _
  have hal := World.grownBy_alloc w6 (.cells #[d.c0, d.c1, d.c2, d.c3, d.c4] 26) none
  have hsz := hS6.size
  have hrow : ∀ x, (Value.slice aK j capK).ownBlock = some x → w.heap.size + 3 ≤ x := fun x e => (hS6.got.row.lt x e).1
  refine ⟨SInv.kid (m := wc.heap.size) (hS6.kept hal) (Own.carry tk _ F (fun b hb => Below.heap_alloc _ _ _ (hF b hb).2) hO) hnd (fun b hb => ⟨(hF b hb).1, by rw [hz6]; have := (hF b hb).2; omega⟩) (fun b hb => (hS5.got.lt b hb).2.1) (fun b hb => (hS5.got.row.lt b hb).2) (fun b hb => (hS5.names.lt b hb).2) hS5.size (by rw [hl]; exact hown) hg (hat.elim (fun e => Or.inl (by rw [e]; rfl)) (fun e => Or.inr ⟨g2, rfl, by rw [hz6, e]; exact Nat.le_refl _⟩)), ?_, ?_⟩
  · exact ((hD.on ((Below.refl _ w6).alloc (Nat.le_refl _) _)).grown hg (fun x e => by have := hrow x e; omega)).set (by omega) _ _
  · exact ((hB.grown hal (by omega) (fun x e => by cases e)).grown hg (by rw [hz6]; omega) (fun x e => by have := hrow x e; omega)).set (by omega) _

/-- What was gathered is put into its box. -/
theorem gathered_end {N R q p : Nat} {w W0 wr : World} {s : Int} {vN vK : Value} {ns : List ByteArray} {ts : List Tr} {xs : List Value} {G : List Nat} {v : Value} {b : List UInt8} (hs : I64 s) (hR : R < w.heap.size) (hbl : Below w.heap.size w W0) (hS : SInv (w.heap.size + 3) (w.heap.size + 2) wr s vN vK ns ts xs G) (hns : ∀ x, x ∈ ns → x.size ≤ 9223372036854775807) (hD : DR R wr v b q) (hB : BB R (w.heap.size + 2) W0 wr) (h1 : q ≤ p + N) (hz1 : 1 + lsz ts ≤ N) (hz2 : ns.length ≤ 1000000) (hz3 : nmK ts) (c0 c1 c2 c3 c4 : Value) :
    TsEnd N R w (((((wr.setCell ⟨w.heap.size + 1, 0, none⟩ c0).setCell ⟨w.heap.size + 1, 1, none⟩ c1).setCell ⟨w.heap.size + 1, 2, none⟩ c2).setCell ⟨w.heap.size + 1, 3, none⟩ c3).setCell ⟨w.heap.size + 1, 4, none⟩ c4) v b p (.returned (.agg #[.int .i64 s, .int .i64 0, .string ByteArray.empty, vN, vK])) := by
  obtain ⟨F, ho, hnd, hF⟩ := hS.done hs hns
  have hbb : But R w wr := ⟨hB.os.trans hbl.os, hB.tape.trans hbl.tape, hB.output.trans hbl.output, Nat.le_trans hbl.size hB.size, fun i hi hne => (hB.block i (by omega) (fun e => hne (by rw [e]))).trans (hbl.block i hi)⟩
  exact ts_end (c := ⟨_, _, _, _, _⟩) hR ho hnd (fun x hx => by have := hF x hx; omega) hD h1 hbb ⟨by rw [tsz]; exact hz1, by rw [nmT]; exact ⟨hz2, hz3⟩⟩ c0 c1 c2 c3 c4

set_option maxRecDepth 100000 in
set_option maxHeartbeats 3200000 in
theorem lt_4 (n : Nat) (IH : LtSaid n) (k : Kd) (hn : ksz k ≤ n) (hs4 : k.sort = 4) (hkl : k.kids.length = 1) (P : Nat → Prop) (c : C3) (w : World) (R : Nat) (v : Value) (b : List UInt8) (p : Nat) (hP : ∀ x, P x → x < w.heap.size ∧ x ≠ R) (hrep : KRep P w k c) (hok : okDs k.kids = true) (hd : DR R w v b p) (hp : p + ndr k ≤ 1000000) :
    Calls Tryz.prog 54 #[.pointer (some ⟨R, 0, none⟩), .agg #[c.c0, c.c1, c.c2]] w fun e w' => TsEnd (ndr k) R w w' v b p e := by
  have hR := hd.cells.lt
  obtain ⟨c0, c1, c2⟩ := c
  obtain ⟨e0, hi0, hns, a, cap, e2, -, hks⟩ := hrep.open
  simp only at e0 e2 hns
  obtain ⟨a3, cap3, e1, -, hnc⟩ := hns
  subst e0 e1 e2
  have h0 : 0 < k.kids.length := by omega
  obtain ⟨kb, ko, ⟨y0, y1, y2⟩, rfl, hpb, hcell, hrp⟩ := hks 0 h0
  rw [Nat.zero_mul, Nat.add_zero] at hcell
  have hndk : ndr k = 3 + 3 * ndr k.kids[0] := by
    rw [nd_eq, nds_one k.kids hkl]
  have hsm : ksz k.kids[0] < n := by have := ksz_kid (List.getElem_mem h0); omega
  have hcall0 := fun (W : World) (q : Nat) (hW : ∀ x, P x → W.heap[x]? = w.heap[x]?) (hsz : w.heap.size ≤ W.heap.size) (hD : DR R W v b q) (hq : q + ndr k.kids[0] ≤ 1000000) => IH k.kids[0] hsm P ⟨y0, y1, y2⟩ W R v b q (fun x hx => ⟨Nat.lt_of_lt_of_le (hP x hx).1 hsz, (hP x hx).2⟩) (KRep.carry hW (fun _ h => h) _ _ hrp) (okDs_get hok 0 h0) hD hq
  obtain ⟨p0, -, ⟨a5, cap5, p1, -⟩, a6, cap6, p2, -⟩ := hrp.open
  simp only at p0 p1 p2
  subst p0 p1 p2
  obtain ⟨i0, hi, hz0, hz1, hz2⟩ := info_parts infoTreeD
  have HII := hide hi; have HZ0 := hide hz0; have HZ1 := hide hz1; have HZ2 := hide hz2
  have HST := hide (LS.start w 4 (.slice a3 k.names.length cap3) (.slice (some ⟨kb, ko, none⟩) k.kids.length cap)); have HD := hide hd; have HC0 := hide hcall0; have HP := hide hP; have HCE := hide hcell
  rw [hs4, hndk]
  rw [hndk] at hp
  rw [hkl] at HST ⊢
  generalize k.kids[0] = kk at *
  generalize ndr kk = N at *
  clear hi hz0 hz1 hz2 hks hnc hrep hd hi0 hcall0 hP hcell hrp hsm hndk hok IH hn hs4 hkl h0
  go_enter Tryz.func54, Tryz.ntmps54
  go_wp2_with fail
  generalize hW0 : (((w.alloc (.cells #[.int .i64 4, .slice a3 k.names.length cap3, .slice (some ⟨kb, ko, none⟩) 1 cap] 83)).alloc (.cells #[.int .i64 0, .int .i64 0, .string ⟨#[]⟩, .slice none 0 0, .slice none 0 0] 26)).alloc (.cells #[.int .i64 4, .int .i64 0, .string ⟨#[]⟩, .slice none 0 0, .slice none 0 0] 26)) = W0 at *
  clear hW0
  refine (pick_any R W0 v b p 4 ((unhide HD).on (unhide HST).bl) (by omega) (by omega)).mono ?_
  rintro e w1 ⟨r, rfl, hr, HD1, HB1⟩
  have hL := unhide HST
  have hsz0 := hL.size
  have HB0 := hide (HB1.out.bb (B := w.heap.size + 2) (by omega))
  have HS0 : Hid (SInv (w.heap.size + 3) (w.heap.size + 2) w1 4 (.slice none 0 0) (.slice none 0 0) [] [] [] []) := SInv.butD (R := R) (w := W0) ⟨by omega, hL.r2, World.ownsRow_nil _ _ _ _, GotO.start _ _, fun b hb => by simp [Value.ownBlock] at hb, by omega⟩ HB1.out (by omega)
  clear HD HB1 hL
  go_wp2_with fail
  go_loopw [6] (fun nn wr => ∃ (m j q : Nat) (aK : Option Addr) (capK : Nat) (ts : List Tr) (xs : List Value) (G : List Nat), m + j ≤ 3 ∧ nn = .int .i64 m ∧ ts.length = j ∧ q ≤ p + 1 + j * N ∧ Hid (lsz ts ≤ j * N ∧ nmK ts) ∧ Hid (SInv (w.heap.size + 3) (w.heap.size + 2) wr 4 (.slice none 0 0) (.slice aK j capK) [] ts xs G) ∧ Hid (DR R wr v b q) ∧ Hid (BB R (w.heap.size + 2) W0 wr)) (fun nn _ => (intOf nn).toNat)
  case atStart => exact ⟨r, 0, p + 1, none, 0, [], [], [], by omega, rfl, rfl, by omega, hide ⟨by simp [lsz], by rw [nmK]; trivial⟩, HS0, HD1, HB0⟩
  case round =>
    clear HS0 HD1 HB0
    obtain ⟨m, j, q, aK, capK, ts, xs, G, hmj, rfl, hlen, hq, HZ, HS, HD, HB⟩ := hrel
    have hsz := HS.out.size
    have hL := unhide HST
    have q0 := hL.r0.of_block (HB.out.block w.heap.size (by omega) (by omega))
    have q1 := hL.r1.of_block (HB.out.block (w.heap.size + 1) (by omega) (by omega))
    have k2 := q0.cell (i := 2) (by omega)
    have t4 := HS.out.cells.cell (i := 4) (by omega)
    simp only [row3, row5] at k2 t4
    have hjN : j * N ≤ 3 * N := Nat.mul_le_mul_right _ (by omega)
    by_cases hm0 : m = 0
    · have hqm : decide ((0 : Int) < (m : Int)) = false := by simp; omega
      have hqn : decide (0 < m) = false := by simp; omega
      have y0 := q1.cell (i := 0) (by omega); have y1 := q1.cell (i := 1) (by omega); have y2 := q1.cell (i := 2) (by omega); have y3 := q1.cell (i := 3) (by omega); have y4 := q1.cell (i := 4) (by omega); have yf := q1.frozen
      have t0 := HS.out.cells.cell (i := 0) (by omega); have t1 := HS.out.cells.cell (i := 1) (by omega); have t2 := HS.out.cells.cell (i := 2) (by omega); have t3 := HS.out.cells.cell (i := 3) (by omega)
      simp only [row5] at y0 y1 y2 y3 y4 t0 t1 t2 t3
      have HEND := hide (fun c0 c1 c2 c3 c4 => gathered_end (N := 3 + 3 * N) (p := p) ⟨by decide, by decide⟩ hR hL.bl HS.out (fun x hx => by cases hx) HD.out HB.out (by omega) (by have := HZ.out.1; omega) (by simp) HZ.out.2 c0 c1 c2 c3 c4)
      clear HS HD HB q0 q1 hL HST hm0
      go_wp2_with fail
      refine bodyPost_ret (v := .agg #[.int .i64 4, .int .i64 0, .string ByteArray.empty, .slice none 0 0, .slice aK j capK]) (by simp [results, Tryz.results54, go_sem, y0, y1, y2, y3, y4]; rfl) rfl ?_
      exact unhide HEND _ _ _ _ _
    · have hqm : decide ((0 : Int) < (m : Int)) = true := by simp; omega
      have hqn : decide (0 < m) = true := by simp; omega
      have hj2 : j * N ≤ 2 * N := Nat.mul_le_mul_right _ (by omega)
      have hold : ∀ x, P x → wr.heap[x]? = w.heap[x]? := fun x hx => by
        have h := unhide HP x hx
        exact (HB.out.block x (by omega) h.2).trans (hL.bl.block x h.1)
      obtain ⟨f0, f1, f2⟩ := (unhide HCE).carry (hold kb hpb)
      simp only at f0 f1 f2
      have hcall : Calls Tryz.prog 54 #[.pointer (some ⟨R, 0, none⟩), .agg #[.int .i64 kk.sort, .slice a5 kk.names.length cap5, .slice a6 kk.kids.length cap6]] wr.drew fun e w6 => ∃ e0 e1 e2 a7 n7 cap7 a8 n8 cap8 tk F q', e = .returned (.agg #[.int .i64 e0, .int .i64 e1, .string e2, .slice a7 n7 cap7, .slice a8 n8 cap8]) ∧ Hid (Own w6 tk ⟨.int .i64 e0, .int .i64 e1, .string e2, .slice a7 n7 cap7, .slice a8 n8 cap8⟩ F) ∧ F.Nodup ∧ Hid (∀ x, x ∈ F → wr.heap.size ≤ x ∧ x < w6.heap.size) ∧ Hid (BB R (w.heap.size + 2) W0 w6) ∧ wr.heap.size ≤ w6.heap.size ∧ Hid (SInv (w.heap.size + 3) (w.heap.size + 2) w6 4 (.slice none 0 0) (.slice aK j capK) [] ts xs G) ∧ Hid (DR R w6 v b q') ∧ Hid (tsz tk ≤ N ∧ nmT tk) ∧ q' ≤ q + N ∧ w6.cell? ⟨w.heap.size + 2, 4, none⟩ = some (.slice aK j capK) ∧ ∀ ob, (w6.alloc ob).cell? ⟨w.heap.size + 2, 4, none⟩ = some (.slice aK j capK) := by
        refine (unhide HC0 wr.drew q hold (by show w.heap.size ≤ wr.heap.size; omega) (HD.out.on (Below.refl _ wr).drew) (by omega)).mono ?_
        rintro e w6 ⟨tk, ⟨y0, y1, y2, y3, y4⟩, F, q', rfl, ho, hn1, hl1, hd6, hq6, hb6, hz6⟩
        obtain ⟨z0, z1, z2, -, -, -, -, -, -, ⟨a7, cap7, z3, -⟩, a8, cap8, z4, -⟩ := ho.open
        simp only at z0 z1 z2 z3 z4
        subst z0 z1 z2 z3 z4
        have hbw : But R wr w6 := (But.of_below (Below.refl _ wr).drew).trans hb6
        have hs6 := HS.out.butD hbw (by omega)
        exact ⟨_, _, _, _, _, _, _, _, _, tk, F, q', rfl, ho, hn1, hl1, HB.out.trans (hbw.bb (by omega)), hbw.size, hs6, hd6, hz6, hq6, hs6.cells.cell (i := 4) (by omega), fun ob => (hs6.cells.alloc ob).cell (i := 4) (by omega)⟩
      have HCALL := hide hcall
      have hwm : IntKind.i64.wrap ((m : Int) - 1) = (m : Int) - 1 := by rw [IntKind.wrap_i64]; omega
      clear hcall hold q0 q1 hL
      go_wp2_with fail
      go_region_law (first
        | ((refine step_append_lies _ (by rfl) _ _ _ (by rfl) (w.heap.size + 3) 26 i0 _ 5 80 Tryz.underlying24 (unhide HII) (unhide HZ0) (unhide HZ1) (unhide HZ2) rfl (by decide) (.slice aK j capK) j xs (by rfl) (by have := (unhide HS6).got.row; rw [hlen] at this; exact this.alloc _) ⟨w6.heap.size, 0, none⟩ 1 1 (c5l ⟨.int .i64 e0, .int .i64 e1, .string e2, .slice a7 n7 cap7, .slice a8 n8 cap8⟩) (by rfl) (by rfl) (cell_five w6 _ _) (unhide HOW).one (by decide) (by unfold maxLen; omega) (by omega) (by simp; omega) (w6.heap.size + 1) (by simp) ?_; intro g2 cap2 w8 hown8 hgrow8 hat8 hlt8; have u4 := (SInv.atK (unhide HS6) hgrow8).cell (i := 4) (by omega); have uz4 := (SInv.atK (unhide HS6) hgrow8).frozen 4; simp only [row5] at u4))
        | (rw [if_pos (by first | rfl | simp [Region.wanted])]; go_simp; refine (unhide HCALL).mono ?_; rintro e w6 ⟨e0, e1, e2, a7, n7, cap7, a8, n8, cap8, tk, F, q', rfl, HOW, hFn, HFL, HB6, hs6, HS6, HD6, HZ6, hq6, t4c, t4d⟩))
      all_goals
        obtain ⟨hinv8, hd8, hb8⟩ := kid_push hR HS.out (unhide HS6) (unhide HOW) hFn (unhide HFL) (unhide HD6) (unhide HB6) hlen hown8 hgrow8 hat8
        have HI8 := hide hinv8; have HD8 := hide hd8; have HB8 := hide hb8
        clear hinv8 hd8 hb8 hown8 hgrow8 hat8 hlt8 u4 uz4 HS6 HOW HFL HB6 HD6 HS HB HD t4c t4d
        go_wp2_with fail
        go_roundw
        case rel => exact ⟨m - 1, j + 1, q', some ⟨g2, 0, none⟩, cap2, ts ++ [tk], _, _, by omega, by go_num, by simp [hlen], by rw [Nat.add_mul, Nat.one_mul]; omega, hide ⟨by rw [lsz_snoc, Nat.add_mul, Nat.one_mul]; have := HZ.out.1; have := HZ6.out.1; omega, nmK_snoc HZ.out.2 HZ6.out.2⟩, HI8, HD8, HB8⟩
        case measure => simp [intOf]; omega
end Go.Proofs.YtbkagahmiibclaaGreatDoor

/- The walk of the specification's l5Tree, further: maybes. Draws at most 10^6. -/

namespace Go.Proofs.YtbkagahmiibclaaGreatDoor
open Go Go.RowKit

/-- A tree with one kid is put into its box. -/
theorem lt_single {N R : Nat} {w W0 W : World} {v : Value} {b : List UInt8} {p p' : Nat} {s : Int} {tk : Tr} {c : C5} {F : List Nat} (hs : I64 s) (hR : R < w.heap.size) (hbl : Below w.heap.size w W0) (ho : Own W tk c F) (hnd : F.Nodup) (hF : ∀ x, x ∈ F → w.heap.size + 2 < x ∧ x < W.heap.size) (hz : w.heap.size + 2 < W.heap.size) (hd : DR R W v b p') (h1 : p' ≤ p + N) (hb : But R W0 W) (hsz9 : 1 + tsz tk ≤ N ∧ nmT tk) (u c0 c1 c2 c3 c4 : Value) :
    TsEnd N R w (((((((W.setCell ⟨w.heap.size + 2, 4, none⟩ u).setCell ⟨w.heap.size + 1, 0, none⟩ c0).setCell ⟨w.heap.size + 1, 1, none⟩ c1).setCell ⟨w.heap.size + 1, 2, none⟩ c2).setCell ⟨w.heap.size + 1, 3, none⟩ c3).setCell ⟨w.heap.size + 1, 4, none⟩ c4).alloc (.cells #[c.c0, c.c1, c.c2, c.c3, c.c4] 26)) v b p (.returned (.agg #[.int .i64 s, .int .i64 0, .string ByteArray.empty, .slice none 0 0, .slice (some ⟨W.heap.size, 0, none⟩) 1 1])) := by
  generalize hV : ((((((W.setCell ⟨w.heap.size + 2, 4, none⟩ u).setCell ⟨w.heap.size + 1, 0, none⟩ c0).setCell ⟨w.heap.size + 1, 1, none⟩ c1).setCell ⟨w.heap.size + 1, 2, none⟩ c2).setCell ⟨w.heap.size + 1, 3, none⟩ c3).setCell ⟨w.heap.size + 1, 4, none⟩ c4) = V
  have hsz : V.heap.size = W.heap.size := by rw [← hV]; simp only [size_setCell]
  have hoth : ∀ x, x ≠ w.heap.size + 1 → x ≠ w.heap.size + 2 → V.heap[x]? = W.heap[x]? := fun x h1 h2 => by
    rw [← hV]
    repeat rw [Below.heap_setCell _ _ _ _ (by simp; omega)]
  have hdV : DR R V v b p' := by
    rw [← hV]
    repeat refine DR.set ?_ (by omega) _ _
    exact hd
  have hbV : But R w V := by
    rw [← hV]
    repeat refine but_setx ?_ (by omega) _ _
    exact (But.of_below hbl).trans hb
  have hoV : Own (V.alloc (.cells #[c.c0, c.c1, c.c2, c.c3, c.c4] 26)) tk c F := Own.carry _ _ F (fun x hx => by
    have := hF x hx
    rw [Below.heap_alloc _ _ _ (by rw [hsz]; omega)]; exact hoth x (by omega) (by omega)) ho
  have hrow := row5_alloc V c.c0 c.c1 c.c2 c.c3 c.c4 26
  rw [hsz] at hrow
  refine ⟨.mk s 0 ByteArray.empty [] [tk], ⟨_, _, _, _, _⟩, W.heap.size :: F, p', rfl, Own.single hs hrow hoV, List.nodup_cons.2 ⟨fun hm => by have := (hF _ hm).2; omega, hnd⟩, fun x hx => ?_, hdV.on ((Below.refl _ _).alloc (Nat.le_refl _) _), h1, hbV.trans (But.alloc R _ _), by simp only [tsz, lsz]; have := hsz9.1; omega, by simp only [nmT, nmK]; exact ⟨by simp, hsz9.2, trivial⟩⟩
  rw [World.size_alloc, hsz]
  rcases List.mem_cons.1 hx with rfl | hx
  · omega
  · have := hF x hx; omega

set_option maxRecDepth 100000 in
set_option maxHeartbeats 3200000 in
theorem lt_6 (n : Nat) (IH : LtSaid n) (k : Kd) (hn : ksz k ≤ n) (hs4 : k.sort = 6) (hkl : k.kids.length = 1) (P : Nat → Prop) (c : C3) (w : World) (R : Nat) (v : Value) (b : List UInt8) (p : Nat) (hP : ∀ x, P x → x < w.heap.size ∧ x ≠ R) (hrep : KRep P w k c) (hok : okDs k.kids = true) (hd : DR R w v b p) (hp : p + ndr k ≤ 1000000) :
    Calls Tryz.prog 54 #[.pointer (some ⟨R, 0, none⟩), .agg #[c.c0, c.c1, c.c2]] w fun e w' => TsEnd (ndr k) R w w' v b p e := by
  have hR := hd.cells.lt
  obtain ⟨c0, c1, c2⟩ := c
  obtain ⟨e0, hi0, hns, a, cap, e2, -, hks⟩ := hrep.open
  simp only at e0 e2 hns
  obtain ⟨a3, cap3, e1, -, hnc⟩ := hns
  subst e0 e1 e2
  have h0 : 0 < k.kids.length := by omega
  obtain ⟨kb, ko, ⟨y0, y1, y2⟩, rfl, hpb, hcell, hrp⟩ := hks 0 h0
  rw [Nat.zero_mul, Nat.add_zero] at hcell
  have hndk : ndr k = 3 + 3 * ndr k.kids[0] := by rw [nd_eq, nds_one k.kids hkl]
  have hsm : ksz k.kids[0] < n := by have := ksz_kid (List.getElem_mem h0); omega
  have hcall0 := fun (W : World) (q : Nat) (hW : ∀ x, P x → W.heap[x]? = w.heap[x]?) (hsz : w.heap.size ≤ W.heap.size) (hD : DR R W v b q) (hq : q + ndr k.kids[0] ≤ 1000000) => IH k.kids[0] hsm P ⟨y0, y1, y2⟩ W R v b q (fun x hx => ⟨Nat.lt_of_lt_of_le (hP x hx).1 hsz, (hP x hx).2⟩) (KRep.carry hW (fun _ h => h) _ _ hrp) (okDs_get hok 0 h0) hD hq
  obtain ⟨p0, -, ⟨a5, cap5, p1, -⟩, a6, cap6, p2, -⟩ := hrp.open
  simp only at p0 p1 p2
  subst p0 p1 p2
  have HST := hide (LS.start w 6 (.slice a3 k.names.length cap3) (.slice (some ⟨kb, ko, none⟩) k.kids.length cap)); have HD := hide hd; have HC0 := hide hcall0; have HP := hide hP; have HCE := hide hcell
  rw [hs4, hndk]
  rw [hndk] at hp
  rw [hkl] at HST ⊢
  generalize k.kids[0] = kk at *
  generalize ndr kk = N at *
  clear hks hnc hrep hd hi0 hcall0 hP hcell hrp hsm hndk hok IH hn hs4 hkl h0
  go_enter Tryz.func54, Tryz.ntmps54
  go_wp2_with fail
  generalize hW0 : (((w.alloc (.cells #[.int .i64 6, .slice a3 k.names.length cap3, .slice (some ⟨kb, ko, none⟩) 1 cap] 83)).alloc (.cells #[.int .i64 0, .int .i64 0, .string ⟨#[]⟩, .slice none 0 0, .slice none 0 0] 26)).alloc (.cells #[.int .i64 6, .int .i64 0, .string ⟨#[]⟩, .slice none 0 0, .slice none 0 0] 26)) = W0 at *
  clear hW0
  refine (pick_any R W0 v b p 3 ((unhide HD).on (unhide HST).bl) (by omega) (by omega)).mono ?_
  rintro e w1 ⟨r, rfl, hr, HD1, HB1⟩
  have hL := unhide HST
  have hsz0 := hL.size
  have hsz1 := HB1.out.size
  by_cases hr0 : r = 0
  · subst hr0
    have r1 := hL.r1.of_block (HB1.out.at hL.r1.lt (by omega)); have r2 := hL.r2.of_block (HB1.out.at hL.r2.lt (by omega))
    have y0 := r1.cell (i := 0) (by omega); have y1 := r1.cell (i := 1) (by omega); have y2 := r1.cell (i := 2) (by omega); have y3 := r1.cell (i := 3) (by omega); have y4 := r1.cell (i := 4) (by omega); have yf := r1.frozen
    have t0 := r2.cell (i := 0) (by omega); have t1 := r2.cell (i := 1) (by omega); have t2 := r2.cell (i := 2) (by omega); have t3 := r2.cell (i := 3) (by omega); have t4 := r2.cell (i := 4) (by omega); have tf := r2.frozen
    simp only [row5] at y0 y1 y2 y3 y4 t0 t1 t2 t3 t4
    have HEND := hide (fun c0 c1 c2 c3 c4 => ts_end (N := 3 + 3 * N) (p := p) (t := .mk 6 0 ByteArray.empty [] []) (c := ⟨_, _, _, _, _⟩) (F := []) hR (Own.leafD w1 6 0 ByteArray.empty ⟨by decide, by decide⟩ ⟨by decide, by decide⟩ (by decide)) List.nodup_nil (fun x hx => by cases hx) HD1.out (by omega) ((But.of_below hL.bl).trans HB1.out) ⟨by simp only [tsz, lsz]; omega, by simp [nmT, nmK]⟩ c0 c1 c2 c3 c4)
    clear r1 r2 HD1 HB1 hL HST HD
    go_wp2_with fail
    refine bodyPost_ret (v := .agg #[.int .i64 6, .int .i64 0, .string ByteArray.empty, .slice none 0 0, .slice none 0 0]) (by simp [results, Tryz.results54, go_sem, y0, y1, y2, y3, y4]; rfl) rfl ?_
    exact unhide HEND _ _ _ _ _
  · have hq0 : decide ((0 : Int) < (r : Int)) = true := by simp; omega
    have hqn : decide (0 < r) = true := by simp; omega
    have r0 := hL.r0.of_block (HB1.out.at hL.r0.lt (by omega))
    have k2 := r0.cell (i := 2) (by omega)
    simp only [row3] at k2
    have hold : ∀ x, P x → w1.heap[x]? = w.heap[x]? := fun x hx => by
      have h := unhide HP x hx
      exact (HB1.out.at (by omega) h.2).trans (hL.bl.block x h.1)
    obtain ⟨f0, f1, f2⟩ := (unhide HCE).carry (hold kb hpb)
    simp only at f0 f1 f2
    have HC1 := hide (unhide HC0 w1 (p + 1) hold (by omega) HD1.out (by omega))
    clear hold r0 HC0 HCE
    go_wp2_with fail
    refine (unhide HC1).mono ?_
    rintro e w2 ⟨tk, ⟨x0, x1, x2, x3, x4⟩, F, q', rfl, ho, hn1, hl1, hd6, hq6, hb6, hz6⟩
    obtain ⟨z0, z1, z2, -, -, -, -, -, -, ⟨a7, cap7, z3, -⟩, a8, cap8, z4, -⟩ := ho.open
    simp only at z0 z1 z2 z3 z4
    subst z0 z1 z2 z3 z4
    have hb2 : But R W0 w2 := HB1.out.trans hb6
    have hsz2 := hb6.size
    have r1 := hL.r1.of_block (hb2.at hL.r1.lt (by omega)); have r2 := hL.r2.of_block (hb2.at hL.r2.lt (by omega))
    have y0 := r1.cell (i := 0) (by omega); have y1 := r1.cell (i := 1) (by omega); have y2 := r1.cell (i := 2) (by omega); have y3 := r1.cell (i := 3) (by omega); have y4 := r1.cell (i := 4) (by omega); have yf := r1.frozen
    have t0 := r2.cell (i := 0) (by omega); have t1 := r2.cell (i := 1) (by omega); have t2 := r2.cell (i := 2) (by omega); have t3 := r2.cell (i := 3) (by omega); have t4 := r2.cell (i := 4) (by omega); have tf := r2.frozen
    simp only [row5] at y0 y1 y2 y3 y4 t0 t1 t2 t3 t4
    have HEND := hide (fun u c0 c1 c2 c3 c4 => lt_single (N := 3 + 3 * N) (p := p) (s := 6) ⟨by decide, by decide⟩ hR hL.bl ho hn1 (fun x hx => by have := hl1 x hx; omega) (by omega) hd6 (by omega) hb2 ⟨by have := hz6.1; omega, hz6.2⟩ u c0 c1 c2 c3 c4)
    have hlt1 : w.heap.size + 1 < w2.heap.size := by omega
    have hlt2 : w.heap.size + 2 < w2.heap.size := by omega
    clear r1 r2 HD1 HB1 hL HST HD ho hl1 hd6 hb6 hb2 HC1 f0 f1 f2 k2
    go_wp2_with fail
    refine bodyPost_ret (v := .agg #[.int .i64 6, .int .i64 0, .string ByteArray.empty, .slice none 0 0, .slice (some ⟨w2.heap.size, 0, none⟩) 1 1]) (by simp [results, Tryz.results54, go_sem, y0, y1, y2, y3, y4, hlt1]; rfl) rfl ?_
    exact unhide HEND _ _ _ _ _ _
end Go.Proofs.YtbkagahmiibclaaGreatDoor
