/- A part. -/
import Derived.Test.YtbkagahmiibclaaGreatDoorPart24
namespace Go.Proofs.YtbkagahmiibclaaGreatDoor
open Go Go.RowKit
set_option maxRecDepth 100000
set_option maxHeartbeats 1600000
def RdEnd (d : Nat) (w : World) (R : Nat) (s : ByteArray) (at' : Nat) (bad : Bool) (e : Ending) (w' : World) : Prop :=
 ∃ (t : Tr) (c : C5) (a2 : Nat) (bad2 : Bool), e = .returned (.agg #[c.c0, c.c1, c.c2, c.c3, c.c4]) ∧ Rep (New w w') w' t c ∧ Rdr w' R s a2 bad2 ∧ But R w w' ∧ a2 ≤ s.size + d ∧
  (bad2 = false → a2 ≤ s.size ∧ bad = false ∧ spT d (lf s at') () = some (t, lf s a2, ())) ∧ (bad2 = true → bad = true ∨ spT d (lf s at') () = none)
theorem RdSaid.of {d : Nat} (h : ∀ (w : World) (R : Nat) (s : ByteArray) (at' : Nat) (bad : Bool), s.size ≤ 1048576 → Rdr w R s at' bad → at' ≤ s.size → Calls Tryz.prog 53 #[.pointer (some ⟨R, 0, none⟩), .int .i64 (7 - d)] w fun e w' => RdEnd d w R s at' bad e w') : RdSaid d := h
structure Tw (w : World) (R : Nat) (s : ByteArray) (a : Nat) (bad : Bool) (W : World) : Prop where
 rdr : Rdr W R s a bad
 box : W.rowIs w.heap.size 26 5 (row5 (.int .i64 0) (.int .i64 0) (.string ⟨#[]⟩) (.slice none 0 0) (.slice none 0 0))
 but : But R w W
 lt : R < w.heap.size
theorem Tw.start {w : World} {R : Nat} {s : ByteArray} {a : Nat} {bad : Bool} (h : Rdr w R s a bad) : Tw w R s a bad (w.alloc (.cells #[.int .i64 0, .int .i64 0, .string ⟨#[]⟩, .slice none 0 0, .slice none 0 0] 26)) :=
 ⟨World.rowIs.alloc h _, row5_alloc w _ _ _ _ _ _, But.alloc _ _ _, h.lt⟩
theorem Tw.next {w W W' : World} {R : Nat} {s : ByteArray} {a a' : Nat} {bad bad' : Bool} (h : Tw w R s a bad W) (hb : But R W W') (hr : Rdr W' R s a' bad') : Tw w R s a' bad' W' :=
 ⟨hr, h.box.of_block (hb.at h.box.lt (by have := h.lt; omega)), h.but.trans hb, h.lt⟩
theorem Tw.drewN {w W : World} {R : Nat} {s : ByteArray} {a : Nat} {bad : Bool} (h : Tw w R s a bad W) (n : Nat) : Tw w R s a bad (W.drewN n) := h.next (but_drewN (But.refl _ _) n) (h.rdr.drewN n)
theorem Tw.fin {w W : World} {R : Nat} {s : ByteArray} {a2 at' : Nat} {bad2 bad : Bool} {d : Nat} {t : Tr} {c : C5} (h : Tw w R s a2 bad2 W) (hr : Rep (fun b => w.heap.size < b ∧ b < W.heap.size) W t c) (ha : a2 ≤ s.size + d)
 (h1 : bad2 = false → a2 ≤ s.size ∧ bad = false ∧ spT d (lf s at') () = some (t, lf s a2, ())) (h2 : bad2 = true → bad = true ∨ spT d (lf s at') () = none) : RdEnd d w R s at' bad (.returned (.agg #[c.c0, c.c1, c.c2, c.c3, c.c4])) (set5 W w.heap.size c) := by
 have hl := h.lt
 have hh := fun b hb => set5_heap W w.heap.size c b hb
 have hz := set5_size W w.heap.size c
 have hbs : Below w.heap.size W (set5 W w.heap.size c) := below_set5 (Below.refl _ _) _ _ (Nat.le_refl _)
 have hlW := h.but.size
 generalize set5 W w.heap.size c = W' at *
 refine ⟨t, c, a2, bad2, rfl, Rep.carry (fun b hb => hh b (by omega)) (fun b hb => ⟨by omega, by rw [hz]; exact hb.2⟩) _ _ hr, World.rowIs.of_block h.rdr (hh R (by omega)), ?_, ha, h1, h2⟩
 exact ⟨hbs.os.trans h.but.os, hbs.tape.trans h.but.tape, hbs.output.trans h.but.output, by rw [hz]; exact h.but.size, fun i hi hne => (hh i (by omega)).trans (h.but.block i hi hne)⟩
theorem rep_leaf {P : Nat → Prop} {W : World} (s n : Int) (tx : ByteArray) (hs : I64 s) (hn : I64 n) (ht : tx.size ≤ 9223372036854775807) : Rep P W (.mk s n tx [] []) ⟨.int .i64 s, .int .i64 n, .string tx, .slice none 0 0, .slice none 0 0⟩ := by
 rw [Rep]
 exact ⟨rfl, rfl, rfl, hs, hn, ht, ⟨none, 0, rfl, by simp, fun i hi => by simp at hi⟩, none, 0, rfl, by simp, fun h => absurd rfl h⟩
theorem bv_at {s : ByteArray} {a : Nat} {c : UInt8} (hc : c ≠ 0) (h : bv s a = c.toNat) : a < s.size ∧ (lf s a).head? = some c := by
 have h1 := (bv_head s a c hc).2 h
 exact ⟨by have := room h1; omega, h1⟩
def wYs : ByteArray := ⟨#[121, 101, 115]⟩
def wNn : ByteArray := ⟨#[110, 111]⟩
theorem lp_nil {σ : Type} (rd : List UInt8 → σ → Option (Tr × List UInt8 × σ)) (e : UInt8) : ∀ (f : Nat) (ks : List Tr) (inp : List UInt8) (st : σ) (ns' : List ByteArray) (ks' : List Tr) (rest : List UInt8) (st' : σ), lp rd false e f [] ks inp st = some (ns', ks', rest, st') → ns' = [] := by
 intro f
 induction f with
 | zero => intro ks inp st ns' ks' rest st' h; rw [lp] at h; cases h
 | succ f ih =>
   intro ks inp st ns' ks' rest st' h
   rw [lp] at h
   split at h
   · simp only [Option.some.injEq, Prod.mk.injEq] at h; exact h.1.symm
   · split at h
     · cases h
     · simp only [nmr, Bool.false_eq_true, if_false] at h
       split at h
       · cases h
       · exact ih _ _ _ _ _ _ _ h
theorem Tw.facts {w W : World} {R : Nat} {s : ByteArray} {a : Nat} {bad : Bool} (h : Tw w R s a bad W) : W.cell? ⟨w.heap.size, 0, none⟩ = some (.int .i64 0) ∧ W.cell? ⟨w.heap.size, 1, none⟩ = some (.int .i64 0) ∧ W.cell? ⟨w.heap.size, 2, none⟩ = some (.string ⟨#[]⟩) ∧ W.cell? ⟨w.heap.size, 3, none⟩ = some (.slice none 0 0) ∧ W.cell? ⟨w.heap.size, 4, none⟩ = some (.slice none 0 0) ∧ W.frozen? ⟨w.heap.size, 0, none⟩ = false ∧ W.frozen? ⟨w.heap.size, 1, none⟩ = false ∧ W.frozen? ⟨w.heap.size, 2, none⟩ = false ∧ W.frozen? ⟨w.heap.size, 3, none⟩ = false ∧ W.frozen? ⟨w.heap.size, 4, none⟩ = false :=
 ⟨h.box.cell (i := 0) (by omega), h.box.cell (i := 1) (by omega), h.box.cell (i := 2) (by omega), h.box.cell (i := 3) (by omega), h.box.cell (i := 4) (by omega), h.box.frozen 0, h.box.frozen 1, h.box.frozen 2, h.box.frozen 3, h.box.frozen 4⟩
theorem Tw.alloc {w W : World} {R : Nat} {s : ByteArray} {a : Nat} {bad : Bool} (h : Tw w R s a bad W) (o : Obj) : Tw w R s a bad (W.alloc o) := h.next (But.alloc _ _ _) (World.rowIs.alloc h.rdr o)
theorem spTree_bad (d : Nat) (w : World) (R : Nat) (s : ByteArray) (at' : Nat) (bad : Bool) (dp : Int) (h : Rdr w R s at' bad) (ha : at' ≤ s.size) (hbd : bad = true ∨ (6 < dp ∧ d = 0)) :
 Calls Tryz.prog 53 #[.pointer (some ⟨R, 0, none⟩), .int .i64 dp] w fun e w' => RdEnd d w R s at' bad e w' := by
 have hsp : bad = true ∨ spT d (lf s at') () = none := hbd.imp id (fun h => by rw [h.2, spT])
 have hfin : RdEnd d w R s at' bad (.returned (.agg #[.int .i64 0, .int .i64 0, .string ByteArray.empty, .slice none 0 0, .slice none 0 0])) ((w.setCell ⟨R, 2, none⟩ (.bool true)).alloc (.cells #[.int .i64 0, .int .i64 0, .string ⟨#[]⟩, .slice none 0 0, .slice none 0 0] 26)) :=
  ⟨.mk 0 0 ByteArray.empty [] [], ⟨_, _, _, _, _⟩, at', true, rfl, rep_leaf 0 0 ByteArray.empty ⟨by decide, by decide⟩ ⟨by decide, by decide⟩ (by simp), World.rowIs.alloc (h.set2 true) _, (But.set _ _ _).trans (But.alloc _ _ _), by omega, (fun h => by cases h), fun _ => hsp⟩
 have HFIN := hH hfin
 obtain ⟨c0, c1, c2, f1, f2⟩ := h.cells
 have hlt := h.lt
 clear hfin h hsp
 rcases hbd with rfl | ⟨hdp, -⟩
 · go_enter Tryz.func53, Tryz.ntmps53
   go_wp2_with fail
   refine bodyPost_ret (v := .agg #[.int .i64 0, .int .i64 0, .string ByteArray.empty, .slice none 0 0, .slice none 0 0]) (by simp [results, Tryz.results53, go_sem]; rfl) rfl ?_
   exact uh HFIN
 · have hdd : decide ((6 : Int) < dp) = true := by simp; omega
   cases bad
   all_goals
    go_enter Tryz.func53, Tryz.ntmps53
    go_wp2_with fail
    refine bodyPost_ret (v := .agg #[.int .i64 0, .int .i64 0, .string ByteArray.empty, .slice none 0 0, .slice none 0 0]) (by simp [results, Tryz.results53, go_sem]; rfl) rfl ?_
    exact uh HFIN
theorem set5_alloc (W : World) (B : Nat) (c : C5) (o : Obj) (h : B < W.heap.size) : set5 (W.alloc o) B c = (set5 W B c).alloc o := by
 unfold set5
 simp only [World.setCell_alloc_past, World.size_setCell, h]
theorem spTree_text (d : Nat) (w : World) (R : Nat) (s : ByteArray) (at' : Nat) (hs : s.size ≤ 1048576) (h : Rdr w R s at' false) (_ha : at' ≤ s.size) (hd : d + 1 ≤ 6) (hb : bv s at' = 34) :
 Calls Tryz.prog 53 #[.pointer (some ⟨R, 0, none⟩), .int .i64 (6 - d)] w fun e w' => RdEnd (d + 1) w R s at' false e w' := by
 have hdd : decide ((6 : Int) < 6 - (d : Int)) = false := by simp; omega
 have hlt := h.lt
 have htw := Tw.start h
 obtain ⟨c0, c1, c2, f1, f2⟩ := h.cells
 have hlk := look_any _ R s at' false htw.rdr
 rw [hb] at hlk
 obtain ⟨hat, hhd⟩ := bv_at (c := 34) (by decide) hb
 have h34 : s[at'].toNat = 34 := by unfold bv at hb; rw [dif_pos hat] at hb; exact hb
 have hle := rn_le nqt s (at' + 1) (by omega)
 have hXs : (⟨((lf s (at' + 1)).takeWhile nqt).toArray⟩ : ByteArray).size ≤ 9223372036854775807 := by
  have h1 := (List.takeWhile_prefix (p := nqt) (l := lf s (at' + 1))).length_le
  have h2 := lf_len s (at' + 1)
  show ((lf s (at' + 1)).takeWhile nqt).toArray.size ≤ _
  simp only [List.size_toArray]
  omega
 have hsp : spT (d + 1) (lf s at') () = if (lf s (at' + 1 + rn nqt s (at' + 1))).head? = some 34 then some (.mk 2 0 ⟨((lf s (at' + 1)).takeWhile nqt).toArray⟩ [] [], lf s (at' + 1 + rn nqt s (at' + 1) + 1), ()) else none := by
  rw [spT, if_pos hhd, ← lf_next, lf_next s (at' + 1 + rn nqt s (at' + 1)), rn_drop]; rfl
 have htx := fun W (hW : Rdr W R s at' false) => text_run_any W R s at' hs hW hat h34
 generalize (⟨((lf s (at' + 1)).takeWhile nqt).toArray⟩ : ByteArray) = X at *
 generalize at' + 1 + rn nqt s (at' + 1) = a2 at *
 have hcal : ∀ W, Tw w R s at' false W → Calls Tryz.prog 79 #[.pointer (some ⟨R, 0, none⟩)] W fun e w2 => e = .returned (.string X) ∧ Hid (RdEnd (d + 1) w R s at' false (.returned (.agg #[.int .i64 2, .int .i64 0, .string X, .slice none 0 0, .slice none 0 0])) (set5 w2 w.heap.size ⟨.int .i64 2, .int .i64 0, .string X, .slice none 0 0, .slice none 0 0⟩)) ∧ w2.cell? ⟨w.heap.size, 0, none⟩ = some (.int .i64 0) ∧ w2.cell? ⟨w.heap.size, 1, none⟩ = some (.int .i64 0) ∧ w2.cell? ⟨w.heap.size, 2, none⟩ = some (.string ⟨#[]⟩) ∧ w2.cell? ⟨w.heap.size, 3, none⟩ = some (.slice none 0 0) ∧ w2.cell? ⟨w.heap.size, 4, none⟩ = some (.slice none 0 0) ∧ w2.frozen? ⟨w.heap.size, 0, none⟩ = false ∧ w2.frozen? ⟨w.heap.size, 1, none⟩ = false ∧ w2.frozen? ⟨w.heap.size, 2, none⟩ = false ∧ w2.frozen? ⟨w.heap.size, 3, none⟩ = false ∧ w2.frozen? ⟨w.heap.size, 4, none⟩ = false := fun W hW => by
  refine (htx W hW.rdr).mono ?_
  rintro e w2 ⟨rfl, hb2, hy, hn⟩
  rw [show pre q34 s a2 = decide ((lf s a2).head? = some 34) from pre_one 34 s a2] at hy hn
  have hrep : Rep (fun b => w.heap.size < b ∧ b < w2.heap.size) w2 (.mk 2 0 X [] []) ⟨.int .i64 2, .int .i64 0, .string X, .slice none 0 0, .slice none 0 0⟩ := rep_leaf 2 0 X ⟨by decide, by decide⟩ ⟨by decide, by decide⟩ hXs
  by_cases hh : (lf s a2).head? = some 34
  · have htw2 := hW.next hb2 (hy (decide_eq_true hh))
    exact ⟨rfl, htw2.fin hrep (by have := room hh; omega) (fun _ => ⟨room hh, rfl, by rw [hsp, if_pos hh]⟩) (fun h => by cases h), htw2.facts⟩
  · have htw2 := hW.next hb2 (hn (decide_eq_false hh))
    exact ⟨rfl, htw2.fin hrep (by omega) (fun h => by cases h) (fun _ => Or.inr (by rw [hsp, if_neg hh])), htw2.facts⟩
 have HLK := hH hlk; have HTW := hH htw; have HCAL := hH hcal
 clear hlk htw h hcal
 go_enter Tryz.func53, Tryz.ntmps53
 go_wp2_with (go_at_call 78; refine (uh HLK).mono ?_; rintro e w1 ⟨rfl, m, rfl⟩)
 refine (uh HCAL _ ((uh HTW).drewN m)).mono ?_
 rintro e w2 ⟨rfl, HFIN, y0, y1, y2, y3, y4, z0, z1, z2, z3, z4⟩
 clear HCAL HTW HLK
 go_wp2_with fail
 refine bodyPost_ret (v := .agg #[.int .i64 2, .int .i64 0, .string X, .slice none 0 0, .slice none 0 0]) (by simp [results, Tryz.results53, go_sem, y0, y1, y2, y3, y4] <;> rfl) rfl ?_
 exact uh HFIN
theorem spTree_yes (d : Nat) (w : World) (R : Nat) (s : ByteArray) (at' : Nat) (hs : s.size ≤ 1048576) (h : Rdr w R s at' false) (_ha : at' ≤ s.size) (hd : d + 1 ≤ 6) (hb : bv s at' = 121) :
 Calls Tryz.prog 53 #[.pointer (some ⟨R, 0, none⟩), .int .i64 (6 - d)] w fun e w' => RdEnd (d + 1) w R s at' false e w' := by
 have hdd : decide ((6 : Int) < 6 - (d : Int)) = false := by simp; omega
 have hlt := h.lt
 have htw := Tw.start h
 obtain ⟨c0, c1, c2, f1, f2⟩ := h.cells
 have hlk := look_any _ R s at' false htw.rdr
 rw [hb] at hlk
 obtain ⟨hat, hhd⟩ := bv_at (c := 121) (by decide) hb
 have hsp : spT (d + 1) (lf s at') () = if [121, 101, 115].isPrefixOf (lf s at') = true then some (.mk 3 1 ByteArray.empty [] [], (lf s at').drop 3, ()) else none := by
  rw [spT, if_neg (by rw [hhd]; decide), if_pos hhd]
 have hcal : ∀ W, Tw w R s at' false W → Calls Tryz.prog 51 #[.pointer (some ⟨R, 0, none⟩), .string wYs] W fun e w2 => e = .returned (.tuple #[]) ∧ Hid (RdEnd (d + 1) w R s at' false (.returned (.agg #[.int .i64 3, .int .i64 1, .string ByteArray.empty, .slice none 0 0, .slice none 0 0])) (set5 w2 w.heap.size ⟨.int .i64 3, .int .i64 1, .string ByteArray.empty, .slice none 0 0, .slice none 0 0⟩)) ∧ w2.cell? ⟨w.heap.size, 0, none⟩ = some (.int .i64 0) ∧ w2.cell? ⟨w.heap.size, 1, none⟩ = some (.int .i64 0) ∧ w2.cell? ⟨w.heap.size, 2, none⟩ = some (.string ⟨#[]⟩) ∧ w2.cell? ⟨w.heap.size, 3, none⟩ = some (.slice none 0 0) ∧ w2.cell? ⟨w.heap.size, 4, none⟩ = some (.slice none 0 0) ∧ w2.frozen? ⟨w.heap.size, 0, none⟩ = false ∧ w2.frozen? ⟨w.heap.size, 1, none⟩ = false ∧ w2.frozen? ⟨w.heap.size, 2, none⟩ = false ∧ w2.frozen? ⟨w.heap.size, 3, none⟩ = false ∧ w2.frozen? ⟨w.heap.size, 4, none⟩ = false := fun W hW => by
  refine (eat_any W R s wYs at' false hs hW.rdr (by omega) (by decide) (by decide)).mono ?_
  rintro e w2 ⟨rfl, a2, bad2, hr2, hb2, h4, -, h5, h6⟩
  have htw2 := hW.next hb2 hr2
  have hrep : Rep (fun b => w.heap.size < b ∧ b < w2.heap.size) w2 (.mk 3 1 ByteArray.empty [] []) ⟨.int .i64 3, .int .i64 1, .string ByteArray.empty, .slice none 0 0, .slice none 0 0⟩ := rep_leaf 3 1 ByteArray.empty ⟨by decide, by decide⟩ ⟨by decide, by decide⟩ (by simp)
  cases hp : pre wYs s at' with
  | false =>
    have hsp2 : spT (d + 1) (lf s at') () = none := by rw [hsp, if_neg (fun e => by have : pre wYs s at' = true := e; rw [hp] at this; cases this)]
    exact ⟨rfl, htw2.fin hrep (by have := h4 (by omega); omega) (fun h => by rw [h6 hp] at h; cases h) (fun _ => Or.inr hsp2), htw2.facts⟩
  | true =>
    obtain ⟨h5a, h5b⟩ := h5 hp
    have hsp2 : spT (d + 1) (lf s at') () = some (.mk 3 1 ByteArray.empty [] [], lf s a2, ()) := by rw [hsp, if_pos (show [121, 101, 115].isPrefixOf (lf s at') = true from hp), h5a, lf_after]; rfl
    exact ⟨rfl, htw2.fin hrep (by have := h4 (by omega); omega) (fun _ => ⟨h4 (by omega), rfl, hsp2⟩) (fun h => by rw [h5b] at h; cases h), htw2.facts⟩
 have HLK := hH hlk; have HTW := hH htw; have HCAL := hH hcal
 clear hlk htw h hcal
 go_enter Tryz.func53, Tryz.ntmps53
 go_wp2_with (go_at_call 78; refine (uh HLK).mono ?_; rintro e w1 ⟨rfl, m, rfl⟩)
 refine (uh HCAL _ ((uh HTW).drewN m)).mono ?_
 rintro e w2 ⟨rfl, HFIN, y0, y1, y2, y3, y4, z0, z1, z2, z3, z4⟩
 clear HCAL HTW HLK
 go_wp2_with fail
 refine bodyPost_ret (v := .agg #[.int .i64 3, .int .i64 1, .string ByteArray.empty, .slice none 0 0, .slice none 0 0]) (by simp [results, Tryz.results53, go_sem, y0, y1, y2, y3, y4] <;> rfl) rfl ?_
 exact uh HFIN
theorem spTree_no (d : Nat) (w : World) (R : Nat) (s : ByteArray) (at' : Nat) (hs : s.size ≤ 1048576) (h : Rdr w R s at' false) (_ha : at' ≤ s.size) (hd : d + 1 ≤ 6) (hb : bv s at' = 110) :
 Calls Tryz.prog 53 #[.pointer (some ⟨R, 0, none⟩), .int .i64 (6 - d)] w fun e w' => RdEnd (d + 1) w R s at' false e w' := by
 have hdd : decide ((6 : Int) < 6 - (d : Int)) = false := by simp; omega
 have hlt := h.lt
 have htw := Tw.start h
 obtain ⟨c0, c1, c2, f1, f2⟩ := h.cells
 have hlk := look_any _ R s at' false htw.rdr
 rw [hb] at hlk
 obtain ⟨hat, hhd⟩ := bv_at (c := 110) (by decide) hb
 have hsp : spT (d + 1) (lf s at') () = if [110, 111].isPrefixOf (lf s at') = true then some (.mk 3 0 ByteArray.empty [] [], (lf s at').drop 2, ()) else none := by
  rw [spT, if_neg (by rw [hhd]; decide), if_neg (by rw [hhd]; decide), if_pos hhd]
 have hcal : ∀ W, Tw w R s at' false W → Calls Tryz.prog 51 #[.pointer (some ⟨R, 0, none⟩), .string wNn] W fun e w2 => e = .returned (.tuple #[]) ∧ Hid (RdEnd (d + 1) w R s at' false (.returned (.agg #[.int .i64 3, .int .i64 0, .string ByteArray.empty, .slice none 0 0, .slice none 0 0])) (set5 w2 w.heap.size ⟨.int .i64 3, .int .i64 0, .string ByteArray.empty, .slice none 0 0, .slice none 0 0⟩)) ∧ w2.cell? ⟨w.heap.size, 0, none⟩ = some (.int .i64 0) ∧ w2.cell? ⟨w.heap.size, 1, none⟩ = some (.int .i64 0) ∧ w2.cell? ⟨w.heap.size, 2, none⟩ = some (.string ⟨#[]⟩) ∧ w2.cell? ⟨w.heap.size, 3, none⟩ = some (.slice none 0 0) ∧ w2.cell? ⟨w.heap.size, 4, none⟩ = some (.slice none 0 0) ∧ w2.frozen? ⟨w.heap.size, 0, none⟩ = false ∧ w2.frozen? ⟨w.heap.size, 1, none⟩ = false ∧ w2.frozen? ⟨w.heap.size, 2, none⟩ = false ∧ w2.frozen? ⟨w.heap.size, 3, none⟩ = false ∧ w2.frozen? ⟨w.heap.size, 4, none⟩ = false := fun W hW => by
  refine (eat_any W R s wNn at' false hs hW.rdr (by omega) (by decide) (by decide)).mono ?_
  rintro e w2 ⟨rfl, a2, bad2, hr2, hb2, h4, -, h5, h6⟩
  have htw2 := hW.next hb2 hr2
  have hrep : Rep (fun b => w.heap.size < b ∧ b < w2.heap.size) w2 (.mk 3 0 ByteArray.empty [] []) ⟨.int .i64 3, .int .i64 0, .string ByteArray.empty, .slice none 0 0, .slice none 0 0⟩ := rep_leaf 3 0 ByteArray.empty ⟨by decide, by decide⟩ ⟨by decide, by decide⟩ (by simp)
  cases hp : pre wNn s at' with
  | false =>
    have hsp2 : spT (d + 1) (lf s at') () = none := by rw [hsp, if_neg (fun e => by have : pre wNn s at' = true := e; rw [hp] at this; cases this)]
    exact ⟨rfl, htw2.fin hrep (by have := h4 (by omega); omega) (fun h => by rw [h6 hp] at h; cases h) (fun _ => Or.inr hsp2), htw2.facts⟩
  | true =>
    obtain ⟨h5a, h5b⟩ := h5 hp
    have hsp2 : spT (d + 1) (lf s at') () = some (.mk 3 0 ByteArray.empty [] [], lf s a2, ()) := by rw [hsp, if_pos (show [110, 111].isPrefixOf (lf s at') = true from hp), h5a, lf_after]; rfl
    exact ⟨rfl, htw2.fin hrep (by have := h4 (by omega); omega) (fun _ => ⟨h4 (by omega), rfl, hsp2⟩) (fun h => by rw [h5b] at h; cases h), htw2.facts⟩
 have HLK := hH hlk; have HTW := hH htw; have HCAL := hH hcal
 clear hlk htw h hcal
 go_enter Tryz.func53, Tryz.ntmps53
 go_wp2_with (go_at_call 78; refine (uh HLK).mono ?_; rintro e w1 ⟨rfl, m, rfl⟩)
 refine (uh HCAL _ ((uh HTW).drewN m)).mono ?_
 rintro e w2 ⟨rfl, HFIN, y0, y1, y2, y3, y4, z0, z1, z2, z3, z4⟩
 clear HCAL HTW HLK
 go_wp2_with fail
 refine bodyPost_ret (v := .agg #[.int .i64 3, .int .i64 0, .string ByteArray.empty, .slice none 0 0, .slice none 0 0]) (by simp [results, Tryz.results53, go_sem, y0, y1, y2, y3, y4] <;> rfl) rfl ?_
 exact uh HFIN
theorem spTree_tilde (d : Nat) (w : World) (R : Nat) (s : ByteArray) (at' : Nat) (hs : s.size ≤ 1048576) (h : Rdr w R s at' false) (_ha : at' ≤ s.size) (hd : d + 1 ≤ 6) (hb : bv s at' = 126) :
 Calls Tryz.prog 53 #[.pointer (some ⟨R, 0, none⟩), .int .i64 (6 - d)] w fun e w' => RdEnd (d + 1) w R s at' false e w' := by
 have hdd : decide ((6 : Int) < 6 - (d : Int)) = false := by simp; omega
 have hlt := h.lt
 have htw := Tw.start h
 obtain ⟨c0, c1, c2, f1, f2⟩ := h.cells
 have hlk := look_any _ R s at' false htw.rdr
 rw [hb] at hlk
 obtain ⟨hat, hhd⟩ := bv_at (c := 126) (by decide) hb
 have hsp : spT (d + 1) (lf s at') () = some (.mk 6 0 ByteArray.empty [] [], (lf s at').tail, ()) := by
  rw [spT, if_neg (by rw [hhd]; decide), if_neg (by rw [hhd]; decide), if_neg (by rw [hhd]; decide), if_pos hhd]
 have hcal : ∀ W, Tw w R s at' false W → Calls Tryz.prog 51 #[.pointer (some ⟨R, 0, none⟩), .string (w1 126)] W fun e w2 => e = .returned (.tuple #[]) ∧ Hid (RdEnd (d + 1) w R s at' false (.returned (.agg #[.int .i64 6, .int .i64 0, .string ByteArray.empty, .slice none 0 0, .slice none 0 0])) (set5 w2 w.heap.size ⟨.int .i64 6, .int .i64 0, .string ByteArray.empty, .slice none 0 0, .slice none 0 0⟩)) ∧ w2.cell? ⟨w.heap.size, 0, none⟩ = some (.int .i64 0) ∧ w2.cell? ⟨w.heap.size, 1, none⟩ = some (.int .i64 0) ∧ w2.cell? ⟨w.heap.size, 2, none⟩ = some (.string ⟨#[]⟩) ∧ w2.cell? ⟨w.heap.size, 3, none⟩ = some (.slice none 0 0) ∧ w2.cell? ⟨w.heap.size, 4, none⟩ = some (.slice none 0 0) ∧ w2.frozen? ⟨w.heap.size, 0, none⟩ = false ∧ w2.frozen? ⟨w.heap.size, 1, none⟩ = false ∧ w2.frozen? ⟨w.heap.size, 2, none⟩ = false ∧ w2.frozen? ⟨w.heap.size, 3, none⟩ = false ∧ w2.frozen? ⟨w.heap.size, 4, none⟩ = false := fun W hW => by
  refine (eat_any W R s (w1 126) at' false hs hW.rdr (by omega) (by decide) (by decide)).mono ?_
  rintro e w2 ⟨rfl, a2, bad2, hr2, hb2, h4, -, h5, h6⟩
  have htw2 := hW.next hb2 hr2
  have hrep : Rep (fun b => w.heap.size < b ∧ b < w2.heap.size) w2 (.mk 6 0 ByteArray.empty [] []) ⟨.int .i64 6, .int .i64 0, .string ByteArray.empty, .slice none 0 0, .slice none 0 0⟩ := rep_leaf 6 0 ByteArray.empty ⟨by decide, by decide⟩ ⟨by decide, by decide⟩ (by simp)
  cases hp : pre (w1 126) s at' with
  | false =>
    rw [pre_one, decide_eq_true hhd] at hp; cases hp
  | true =>
    obtain ⟨h5a, h5b⟩ := h5 hp
    have hsp2 : spT (d + 1) (lf s at') () = some (.mk 6 0 ByteArray.empty [] [], lf s a2, ()) := by rw [hsp, h5a, show at' + (w1 126).size = at' + 1 from rfl, lf_next]
    exact ⟨rfl, htw2.fin hrep (by have := h4 (by omega); omega) (fun _ => ⟨h4 (by omega), rfl, hsp2⟩) (fun h => by rw [h5b] at h; cases h), htw2.facts⟩
 have HLK := hH hlk; have HTW := hH htw; have HCAL := hH hcal
 clear hlk htw h hcal
 go_enter Tryz.func53, Tryz.ntmps53
 go_wp2_with (go_at_call 78; refine (uh HLK).mono ?_; rintro e w1 ⟨rfl, m, rfl⟩)
 refine (uh HCAL _ ((uh HTW).drewN m)).mono ?_
 rintro e w2 ⟨rfl, HFIN, y0, y1, y2, y3, y4, z0, z1, z2, z3, z4⟩
 clear HCAL HTW HLK
 go_wp2_with fail
 refine bodyPost_ret (v := .agg #[.int .i64 6, .int .i64 0, .string ByteArray.empty, .slice none 0 0, .slice none 0 0]) (by simp [results, Tryz.results53, go_sem, y0, y1, y2, y3, y4] <;> rfl) rfl ?_
 exact uh HFIN
theorem spTree_num (d : Nat) (w : World) (R : Nat) (s : ByteArray) (at' : Nat) (hs : s.size ≤ 1048576) (h : Rdr w R s at' false) (_ha : at' ≤ s.size) (hd : d + 1 ≤ 6) (n1 : bv s at' ≠ 34) (n2 : bv s at' ≠ 121) (n3 : bv s at' ≠ 110) (n4 : bv s at' ≠ 126) (n5 : bv s at' ≠ 63) (n6 : bv s at' ≠ 91) (n7 : bv s at' ≠ 123) :
 Calls Tryz.prog 53 #[.pointer (some ⟨R, 0, none⟩), .int .i64 (6 - d)] w fun e w' => RdEnd (d + 1) w R s at' false e w' := by
 have hdd : decide ((6 : Int) < 6 - (d : Int)) = false := by simp; omega
 have hlt := h.lt
 have htw := Tw.start h
 obtain ⟨c0, c1, c2, f1, f2⟩ := h.cells
 have hlk := look_any _ R s at' false htw.rdr
 have hsp : spT (d + 1) (lf s at') () = match spNum (lf s at') with
  | none => none
  | some (n, rest) => some (.mk 1 n ByteArray.empty [] [], rest, ()) := by
  rw [spT, if_neg (fun e => n1 ((bv_head s at' 34 (by decide)).1 e)), if_neg (fun e => n2 ((bv_head s at' 121 (by decide)).1 e)), if_neg (fun e => n3 ((bv_head s at' 110 (by decide)).1 e)), if_neg (fun e => n4 ((bv_head s at' 126 (by decide)).1 e)), if_neg (fun e => n5 ((bv_head s at' 63 (by decide)).1 e)), if_neg (fun e => n6 ((bv_head s at' 91 (by decide)).1 e)), if_neg (fun e => n7 ((bv_head s at' 123 (by decide)).1 e))]
  rcases spNum (lf s at') with _ | ⟨n, rest⟩ <;> rfl
 have hcal : ∀ W, Tw w R s at' false W → Calls Tryz.prog 52 #[.pointer (some ⟨R, 0, none⟩)] W fun e w2 => ∃ n : Int, e = .returned (.int .i64 n) ∧ Hid (RdEnd (d + 1) w R s at' false (.returned (.agg #[.int .i64 1, .int .i64 n, .string ByteArray.empty, .slice none 0 0, .slice none 0 0])) (set5 w2 w.heap.size ⟨.int .i64 1, .int .i64 n, .string ByteArray.empty, .slice none 0 0, .slice none 0 0⟩)) ∧ w2.cell? ⟨w.heap.size, 0, none⟩ = some (.int .i64 0) ∧ w2.cell? ⟨w.heap.size, 1, none⟩ = some (.int .i64 0) ∧ w2.cell? ⟨w.heap.size, 2, none⟩ = some (.string ⟨#[]⟩) ∧ w2.cell? ⟨w.heap.size, 3, none⟩ = some (.slice none 0 0) ∧ w2.cell? ⟨w.heap.size, 4, none⟩ = some (.slice none 0 0) ∧ w2.frozen? ⟨w.heap.size, 0, none⟩ = false ∧ w2.frozen? ⟨w.heap.size, 1, none⟩ = false ∧ w2.frozen? ⟨w.heap.size, 2, none⟩ = false ∧ w2.frozen? ⟨w.heap.size, 3, none⟩ = false ∧ w2.frozen? ⟨w.heap.size, 4, none⟩ = false := fun W hW => by
  refine (num_any W R s at' hs hW.rdr _ha).mono ?_
  rintro e w2 ⟨n, a2, bad2, rfl, hn, ha2, hr2, hb2, h5, h6⟩
  have htw2 := hW.next hb2 hr2
  have hrep : Rep (fun b => w.heap.size < b ∧ b < w2.heap.size) w2 (.mk 1 n ByteArray.empty [] []) ⟨.int .i64 1, .int .i64 n, .string ByteArray.empty, .slice none 0 0, .slice none 0 0⟩ := rep_leaf 1 n ByteArray.empty ⟨by decide, by decide⟩ hn (by simp)
  cases hN : spNum (lf s at') with
  | none =>
    rw [hN] at hsp
    exact ⟨n, rfl, htw2.fin hrep (by omega) (fun h => by rw [h6 hN] at h; cases h) (fun _ => Or.inr hsp), htw2.facts⟩
  | some x =>
    obtain ⟨m, rest⟩ := x
    rw [hN] at hsp
    obtain ⟨rfl, g2, g3⟩ := h5 m rest hN
    exact ⟨n, rfl, htw2.fin hrep (by omega) (fun _ => ⟨ha2, rfl, by rw [hsp, g3]⟩) (fun h => by rw [g2] at h; cases h), htw2.facts⟩
 have HLK := hH hlk; have HTW := hH htw; have HCAL := hH hcal
 clear hlk htw h hcal
 generalize bv s at' = v at *
 go_enter Tryz.func53, Tryz.ntmps53
 go_wp2_with (go_at_call 78; refine (uh HLK).mono ?_; rintro e w1 ⟨rfl, m, rfl⟩)
 refine (uh HCAL _ ((uh HTW).drewN m)).mono ?_
 rintro e w2 ⟨n, rfl, HFIN, y0, y1, y2, y3, y4, z0, z1, z2, z3, z4⟩
 clear HCAL HTW HLK
 go_wp2_with fail
 refine bodyPost_ret (v := .agg #[.int .i64 1, .int .i64 n, .string ByteArray.empty, .slice none 0 0, .slice none 0 0]) (by simp [results, Tryz.results53, go_sem, y0, y1, y2, y3, y4] <;> rfl) rfl ?_
 exact uh HFIN
theorem spTree_list (d : Nat) (IH : RdSaid d) (w : World) (R : Nat) (s : ByteArray) (at' : Nat) (hs : s.size ≤ 1048576) (h : Rdr w R s at' false) (_ha : at' ≤ s.size) (hd : d + 1 ≤ 6) (hb : bv s at' = 91) :
 Calls Tryz.prog 53 #[.pointer (some ⟨R, 0, none⟩), .int .i64 (6 - d)] w fun e w' => RdEnd (d + 1) w R s at' false e w' := by
 have hdd : decide ((6 : Int) < 6 - (d : Int)) = false := by simp; omega
 have hlt := h.lt
 have htw := Tw.start h
 obtain ⟨c0, c1, c2, f1, f2⟩ := h.cells
 have hlk := look_any _ R s at' false htw.rdr
 rw [hb] at hlk
 obtain ⟨hat, hhd⟩ := bv_at (c := 91) (by decide) hb
 have hsp : ∀ x, lp (spT d) false 93 ((lf s at').length + 1) [] [] (lf s (at' + 1)) () = x → spT (d + 1) (lf s at') () = match x with
  | none => none
  | some (_, ks, rest, _) => some (.mk 4 0 ByteArray.empty [] ks, rest, ()) := by
  rintro x rfl
  rw [spT, if_neg (by rw [hhd]; decide), if_neg (by rw [hhd]; decide), if_neg (by rw [hhd]; decide), if_neg (by rw [hhd]; decide), if_neg (by rw [hhd]; decide), if_pos hhd, ← lf_next]
  rcases lp (spT d) false 93 ((lf s at').length + 1) [] [] (lf s (at' + 1)) () with _ | ⟨ns, ks, rest, u⟩ <;> rfl
 have hcal : ∀ W, Tw w R s at' false W → Calls Tryz.prog 80 #[.pointer (some ⟨R, 0, none⟩), .int .i64 4, .int .u8 93, .int .i64 (6 - d)] W fun e w2 => ∃ (t : Tr) (ap : Option Addr) (cp : Nat) (aq : Option Addr) (cq : Nat), e = .returned (.agg #[.int .i64 t.sort, .int .i64 t.num, .string t.text, .slice ap t.names.length cp, .slice aq t.kids.length cq]) ∧ Hid (RdEnd (d + 1) w R s at' false (.returned (.agg #[.int .i64 t.sort, .int .i64 t.num, .string t.text, .slice ap t.names.length cp, .slice aq t.kids.length cq])) (set5 w2 w.heap.size ⟨.int .i64 t.sort, .int .i64 t.num, .string t.text, .slice ap t.names.length cp, .slice aq t.kids.length cq⟩)) ∧ w2.cell? ⟨w.heap.size, 0, none⟩ = some (.int .i64 0) ∧ w2.cell? ⟨w.heap.size, 1, none⟩ = some (.int .i64 0) ∧ w2.cell? ⟨w.heap.size, 2, none⟩ = some (.string ⟨#[]⟩) ∧ w2.cell? ⟨w.heap.size, 3, none⟩ = some (.slice none 0 0) ∧ w2.cell? ⟨w.heap.size, 4, none⟩ = some (.slice none 0 0) ∧ w2.frozen? ⟨w.heap.size, 0, none⟩ = false ∧ w2.frozen? ⟨w.heap.size, 1, none⟩ = false ∧ w2.frozen? ⟨w.heap.size, 2, none⟩ = false ∧ w2.frozen? ⟨w.heap.size, 3, none⟩ = false ∧ w2.frozen? ⟨w.heap.size, 4, none⟩ = false := fun W hW => by
  refine (many_4 d IH (by omega) W R s at' hs hW.rdr hat).mono ?_
  rintro e w2 ⟨t, ⟨x0, x1, x2, x3, x4⟩, a2, bad2, rfl, hrep, hr2, hb2, hfar, hyes, hno⟩
  obtain ⟨q0, q1, q2, -, -, -, ⟨ap, cp, q3, -⟩, aq, cq, q4, -⟩ := hrep.open
  simp only at q0 q1 q2 q3 q4
  subst q0 q1 q2 q3 q4
  have htw2 := hW.next hb2 hr2
  have hWs := hW.box.lt
  have hrep2 : Rep (fun b => w.heap.size < b ∧ b < w2.heap.size) w2 t ⟨.int .i64 t.sort, .int .i64 t.num, .string t.text, .slice ap t.names.length cp, .slice aq t.kids.length cq⟩ := Rep.carry (fun _ _ => rfl) (fun b hb => ⟨Nat.lt_of_lt_of_le hWs hb.1, hb.2⟩) _ _ hrep
  refine ⟨t, ap, cp, aq, cq, rfl, htw2.fin hrep2 (by omega) (fun h => ?_) (fun h => Or.inr (hsp _ (hno h))), htw2.facts⟩
  obtain ⟨g1, ns, ks, rfl, g2⟩ := hyes h
  refine ⟨g1, rfl, ?_⟩
  rw [hsp _ g2]
  have : ns = [] := lp_nil _ _ _ _ _ _ _ _ _ _ g2
  subst this
  rfl
 have HLK := hH hlk; have HTW := hH htw; have HCAL := hH hcal
 clear hlk htw h hcal
 go_enter Tryz.func53, Tryz.ntmps53
 go_wp2_with (go_at_call 78; refine (uh HLK).mono ?_; rintro e w1 ⟨rfl, m, rfl⟩)
 refine (uh HCAL _ ((uh HTW).drewN m)).mono ?_
 rintro e w2 ⟨t, ap, cp, aq, cq, rfl, HFIN, y0, y1, y2, y3, y4, z0, z1, z2, z3, z4⟩
 clear HCAL HTW HLK
 go_wp2_with fail
 refine bodyPost_ret (v := .agg #[.int .i64 t.sort, .int .i64 t.num, .string t.text, .slice ap t.names.length cp, .slice aq t.kids.length cq]) (by simp [results, Tryz.results53, go_sem, y0, y1, y2, y3, y4] <;> rfl) rfl ?_
 exact uh HFIN
theorem spTree_form (d : Nat) (IH : RdSaid d) (w : World) (R : Nat) (s : ByteArray) (at' : Nat) (hs : s.size ≤ 1048576) (h : Rdr w R s at' false) (_ha : at' ≤ s.size) (hd : d + 1 ≤ 6) (hb : bv s at' = 123) :
 Calls Tryz.prog 53 #[.pointer (some ⟨R, 0, none⟩), .int .i64 (6 - d)] w fun e w' => RdEnd (d + 1) w R s at' false e w' := by
 have hdd : decide ((6 : Int) < 6 - (d : Int)) = false := by simp; omega
 have hlt := h.lt
 have htw := Tw.start h
 obtain ⟨c0, c1, c2, f1, f2⟩ := h.cells
 have hlk := look_any _ R s at' false htw.rdr
 rw [hb] at hlk
 obtain ⟨hat, hhd⟩ := bv_at (c := 123) (by decide) hb
 have hsp : ∀ x, lp (spT d) true 125 ((lf s at').length + 1) [] [] (lf s (at' + 1)) () = x → spT (d + 1) (lf s at') () = match x with
  | none => none
  | some (ns, ks, rest, _) => some (.mk 5 0 ByteArray.empty ns ks, rest, ()) := by
  rintro x rfl
  rw [spT, if_neg (by rw [hhd]; decide), if_neg (by rw [hhd]; decide), if_neg (by rw [hhd]; decide), if_neg (by rw [hhd]; decide), if_neg (by rw [hhd]; decide), if_neg (by rw [hhd]; decide), if_pos hhd, ← lf_next]
  rcases lp (spT d) true 125 ((lf s at').length + 1) [] [] (lf s (at' + 1)) () with _ | ⟨ns, ks, rest, u⟩ <;> rfl
 have hcal : ∀ W, Tw w R s at' false W → Calls Tryz.prog 80 #[.pointer (some ⟨R, 0, none⟩), .int .i64 5, .int .u8 125, .int .i64 (6 - d)] W fun e w2 => ∃ (t : Tr) (ap : Option Addr) (cp : Nat) (aq : Option Addr) (cq : Nat), e = .returned (.agg #[.int .i64 t.sort, .int .i64 t.num, .string t.text, .slice ap t.names.length cp, .slice aq t.kids.length cq]) ∧ Hid (RdEnd (d + 1) w R s at' false (.returned (.agg #[.int .i64 t.sort, .int .i64 t.num, .string t.text, .slice ap t.names.length cp, .slice aq t.kids.length cq])) (set5 w2 w.heap.size ⟨.int .i64 t.sort, .int .i64 t.num, .string t.text, .slice ap t.names.length cp, .slice aq t.kids.length cq⟩)) ∧ w2.cell? ⟨w.heap.size, 0, none⟩ = some (.int .i64 0) ∧ w2.cell? ⟨w.heap.size, 1, none⟩ = some (.int .i64 0) ∧ w2.cell? ⟨w.heap.size, 2, none⟩ = some (.string ⟨#[]⟩) ∧ w2.cell? ⟨w.heap.size, 3, none⟩ = some (.slice none 0 0) ∧ w2.cell? ⟨w.heap.size, 4, none⟩ = some (.slice none 0 0) ∧ w2.frozen? ⟨w.heap.size, 0, none⟩ = false ∧ w2.frozen? ⟨w.heap.size, 1, none⟩ = false ∧ w2.frozen? ⟨w.heap.size, 2, none⟩ = false ∧ w2.frozen? ⟨w.heap.size, 3, none⟩ = false ∧ w2.frozen? ⟨w.heap.size, 4, none⟩ = false := fun W hW => by
  refine (many_5 d IH (by omega) W R s at' hs hW.rdr hat).mono ?_
  rintro e w2 ⟨t, ⟨x0, x1, x2, x3, x4⟩, a2, bad2, rfl, hrep, hr2, hb2, hfar, hyes, hno⟩
  obtain ⟨q0, q1, q2, -, -, -, ⟨ap, cp, q3, -⟩, aq, cq, q4, -⟩ := hrep.open
  simp only at q0 q1 q2 q3 q4
  subst q0 q1 q2 q3 q4
  have htw2 := hW.next hb2 hr2
  have hWs := hW.box.lt
  have hrep2 : Rep (fun b => w.heap.size < b ∧ b < w2.heap.size) w2 t ⟨.int .i64 t.sort, .int .i64 t.num, .string t.text, .slice ap t.names.length cp, .slice aq t.kids.length cq⟩ := Rep.carry (fun _ _ => rfl) (fun b hb => ⟨Nat.lt_of_lt_of_le hWs hb.1, hb.2⟩) _ _ hrep
  refine ⟨t, ap, cp, aq, cq, rfl, htw2.fin hrep2 (by omega) (fun h => ?_) (fun h => Or.inr (hsp _ (hno h))), htw2.facts⟩
  obtain ⟨g1, ns, ks, rfl, g2⟩ := hyes h
  refine ⟨g1, rfl, ?_⟩
  rw [hsp _ g2]
 have HLK := hH hlk; have HTW := hH htw; have HCAL := hH hcal
 clear hlk htw h hcal
 go_enter Tryz.func53, Tryz.ntmps53
 go_wp2_with (go_at_call 78; refine (uh HLK).mono ?_; rintro e w1 ⟨rfl, m, rfl⟩)
 refine (uh HCAL _ ((uh HTW).drewN m)).mono ?_
 rintro e w2 ⟨t, ap, cp, aq, cq, rfl, HFIN, y0, y1, y2, y3, y4, z0, z1, z2, z3, z4⟩
 clear HCAL HTW HLK
 go_wp2_with fail
 refine bodyPost_ret (v := .agg #[.int .i64 t.sort, .int .i64 t.num, .string t.text, .slice ap t.names.length cp, .slice aq t.kids.length cq]) (by simp [results, Tryz.results53, go_sem, y0, y1, y2, y3, y4] <;> rfl) rfl ?_
 exact uh HFIN
theorem spTree_maybe (d : Nat) (IH : RdSaid d) (w : World) (R : Nat) (s : ByteArray) (at' : Nat) (hs : s.size ≤ 1048576) (h : Rdr w R s at' false) (_ha : at' ≤ s.size) (hd : d + 1 ≤ 6) (hb : bv s at' = 63) :
 Calls Tryz.prog 53 #[.pointer (some ⟨R, 0, none⟩), .int .i64 (6 - d)] w fun e w' => RdEnd (d + 1) w R s at' false e w' := by
 have hdd : decide ((6 : Int) < 6 - (d : Int)) = false := by simp; omega
 have hd1 : (6 : Int) - (d : Int) + 1 = 7 - d := by omega
 have hlt := h.lt
 have htw := Tw.start h
 obtain ⟨c0, c1, c2, f1, f2⟩ := h.cells
 have hlk := look_any _ R s at' false htw.rdr
 rw [hb] at hlk
 obtain ⟨hat, hhd⟩ := bv_at (c := 63) (by decide) hb
 have hsp : ∀ x, spT d (lf s (at' + 1)) () = x → spT (d + 1) (lf s at') () = match x with
  | none => none
  | some (t, rest, _) => some (.mk 6 0 ByteArray.empty [] [t], rest, ()) := by
  rintro x rfl
  rw [spT, if_neg (by rw [hhd]; decide), if_neg (by rw [hhd]; decide), if_neg (by rw [hhd]; decide), if_neg (by rw [hhd]; decide), if_pos hhd, ← lf_next]
  rcases spT d (lf s (at' + 1)) () with _ | ⟨t, rest, u⟩ <;> rfl
 have heat := fun W (hW : Rdr W R s at' false) => eat_yes W R s (w1 63) at' false hs hW (by omega) (by decide) (by decide) (by rw [pre_one, hhd]; simp)
 have hcal : ∀ W, Tw w R s (at' + 1) false W → Calls Tryz.prog 53 #[.pointer (some ⟨R, 0, none⟩), .int .i64 (7 - d)] W fun e w2 => ∃ (t : Tr) (ap : Option Addr) (cp : Nat) (aq : Option Addr) (cq : Nat), e = .returned (.agg #[.int .i64 t.sort, .int .i64 t.num, .string t.text, .slice ap t.names.length cp, .slice aq t.kids.length cq]) ∧ Hid (RdEnd (d + 1) w R s at' false (.returned (.agg #[.int .i64 6, .int .i64 0, .string ByteArray.empty, .slice none 0 0, .slice (some ⟨w2.heap.size, 0, none⟩) 1 1])) ((set5 w2 w.heap.size ⟨.int .i64 6, .int .i64 0, .string ByteArray.empty, .slice none 0 0, .slice (some ⟨w2.heap.size, 0, none⟩) 1 1⟩).alloc (.cells #[.int .i64 t.sort, .int .i64 t.num, .string t.text, .slice ap t.names.length cp, .slice aq t.kids.length cq] 26))) ∧ w.heap.size < w2.heap.size ∧ w2.cell? ⟨w.heap.size, 0, none⟩ = some (.int .i64 0) ∧ w2.cell? ⟨w.heap.size, 1, none⟩ = some (.int .i64 0) ∧ w2.cell? ⟨w.heap.size, 2, none⟩ = some (.string ⟨#[]⟩) ∧ w2.cell? ⟨w.heap.size, 3, none⟩ = some (.slice none 0 0) ∧ w2.cell? ⟨w.heap.size, 4, none⟩ = some (.slice none 0 0) ∧ w2.frozen? ⟨w.heap.size, 0, none⟩ = false ∧ w2.frozen? ⟨w.heap.size, 1, none⟩ = false ∧ w2.frozen? ⟨w.heap.size, 2, none⟩ = false ∧ w2.frozen? ⟨w.heap.size, 3, none⟩ = false ∧ w2.frozen? ⟨w.heap.size, 4, none⟩ = false := fun W hW => by
  refine (IH W R s (at' + 1) false hs hW.rdr (by omega)).mono ?_
  rintro e w2 ⟨t, ⟨x0, x1, x2, x3, x4⟩, a2, bad2, rfl, hrep, hr2, hb2, hfar, hyes, hno⟩
  obtain ⟨q0, q1, q2, -, -, -, ⟨ap, cp, q3, -⟩, aq, cq, q4, -⟩ := hrep.open
  simp only at q0 q1 q2 q3 q4
  subst q0 q1 q2 q3 q4
  have htw2 := hW.next hb2 hr2
  have hWs := hW.box.lt
  have hl2 := htw2.box.lt
  have htw3 := htw2.alloc (.cells #[.int .i64 t.sort, .int .i64 t.num, .string t.text, .slice ap t.names.length cp, .slice aq t.kids.length cq] 26)
  have hrep3 : Rep (fun b => w.heap.size < b ∧ b < (w2.alloc (.cells #[.int .i64 t.sort, .int .i64 t.num, .string t.text, .slice ap t.names.length cp, .slice aq t.kids.length cq] 26)).heap.size) (w2.alloc (.cells #[.int .i64 t.sort, .int .i64 t.num, .string t.text, .slice ap t.names.length cp, .slice aq t.kids.length cq] 26)) (.mk 6 0 ByteArray.empty [] [t]) ⟨.int .i64 6, .int .i64 0, .string ByteArray.empty, .slice none 0 0, .slice (some ⟨w2.heap.size, 0, none⟩) 1 1⟩ := by
   rw [Rep]
   refine ⟨rfl, rfl, rfl, ⟨by decide, by decide⟩, ⟨by decide, by decide⟩, by simp, ⟨none, 0, rfl, by simp, fun i hi => by simp at hi⟩, some ⟨w2.heap.size, 0, none⟩, 1, rfl, by simp, fun _ => ⟨w2.heap.size, 0, rfl, ⟨by omega, by simp⟩, RepK.mk fun i hi => ?_⟩⟩
   have hi0 : i = 0 := by simp at hi; omega
   subst hi0
   have hrow := row5_alloc w2 (.int .i64 t.sort) (.int .i64 t.num) (.string t.text) (.slice ap t.names.length cp) (.slice aq t.kids.length cq) 26
   refine ⟨⟨_, _, _, _, _⟩, ⟨hrow.cell (i := 0) (by omega), hrow.cell (i := 1) (by omega), hrow.cell (i := 2) (by omega), hrow.cell (i := 3) (by omega), hrow.cell (i := 4) (by omega)⟩, ?_⟩
   exact Rep.carry (w := w2) (P := New W w2) (fun b hb => Below.heap_alloc _ _ _ hb.2) (fun b hb => ⟨Nat.lt_of_lt_of_le hWs hb.1, by rw [World.size_alloc]; have := hb.2; omega⟩) _ _ hrep
  have hfin := htw3.fin (d := d + 1) (at' := at') (bad := false) hrep3 (by omega) (fun h => by obtain ⟨g1, -, g2⟩ := hyes h; exact ⟨g1, rfl, by rw [hsp _ g2]⟩) (fun h => Or.inr (by rcases hno h with k | k; cases k; rw [hsp _ k]))
  rw [set5_alloc _ _ _ _ hl2] at hfin
  exact ⟨t, ap, cp, aq, cq, rfl, hfin, hl2, htw2.facts⟩
 have HLK := hH hlk; have HTW := hH htw; have HCAL := hH hcal; have HEA := hH heat
 clear hlk htw h hcal heat
 go_enter Tryz.func53, Tryz.ntmps53
 go_wp2_with (first
  | (go_at_call 78; refine (uh HLK).mono ?_; rintro e w1 ⟨rfl, m, rfl⟩)
  | (go_at_call 51; refine (uh HEA _ ((uh HTW).drewN _).rdr).mono ?_; rintro e w3 ⟨rfl, hr3, hb3⟩; have HT3 := hH (((uh HTW).drewN m).next hb3 hr3); clear hr3 hb3 HEA))
 refine (uh HCAL _ (uh HT3)).mono ?_
 rintro e w2 ⟨t, ap, cp, aq, cq, rfl, HFIN, hl2, y0, y1, y2, y3, y4, z0, z1, z2, z3, z4⟩
 clear HCAL HTW HLK HT3
 go_wp2_with fail
 refine bodyPost_ret (v := .agg #[.int .i64 6, .int .i64 0, .string ByteArray.empty, .slice none 0 0, .slice (some ⟨w2.heap.size, 0, none⟩) 1 1]) (by simp [results, Tryz.results53, go_sem, y0, y1, y2, y3, y4, hl2] <;> rfl) rfl ?_
 exact uh HFIN
theorem spTree_step (d : Nat) (hd : d + 1 ≤ 6) (IH : RdSaid d) : RdSaid (d + 1) := by
 refine RdSaid.of fun w R s at' bad hs h ha => ?_
 have e : (7 : Int) - ((d + 1 : Nat) : Int) = 6 - (d : Int) := by omega
 rw [e]
 cases bad with
 | true => exact spTree_bad (d + 1) w R s at' true _ h ha (Or.inl rfl)
 | false =>
   by_cases n1 : bv s at' = 34
   · exact spTree_text d w R s at' hs h ha hd n1
   by_cases n2 : bv s at' = 121
   · exact spTree_yes d w R s at' hs h ha hd n2
   by_cases n3 : bv s at' = 110
   · exact spTree_no d w R s at' hs h ha hd n3
   by_cases n4 : bv s at' = 126
   · exact spTree_tilde d w R s at' hs h ha hd n4
   by_cases n5 : bv s at' = 63
   · exact spTree_maybe d IH w R s at' hs h ha hd n5
   by_cases n6 : bv s at' = 91
   · exact spTree_list d IH w R s at' hs h ha hd n6
   by_cases n7 : bv s at' = 123
   · exact spTree_form d IH w R s at' hs h ha hd n7
   exact spTree_num d w R s at' hs h ha hd n1 n2 n3 n4 n5 n6 n7
theorem spTree_zero : RdSaid 0 := RdSaid.of fun w R s at' bad _ h ha => spTree_bad 0 w R s at' bad _ h ha (Or.inr ⟨by omega, rfl⟩)
theorem spTree_all : ∀ d, d ≤ 6 → RdSaid d
 | 0, _ => spTree_zero
 | d + 1, h => spTree_step d h (spTree_all d (by omega))

def NumBd (w wr : World) (R : Nat) (s : ByteArray) (b : Nat) (n : Value) : Prop :=
 ∃ k, k ≤ (dgs s b).length ∧ n = .int .i64 (dval 0 ((dgs s b).take k) : Nat) ∧ Rdr wr R s (b + k) true ∧ But R w wr
theorem num_posB (w : World) (R : Nat) (s : ByteArray) (at' : Nat) (hs : s.size ≤ 1048576) (h : Rdr w R s at' true) (hv0 : bv s at' ≠ 45) (ha : at' ≤ s.size) :
 Calls Tryz.prog 52 #[.pointer (some ⟨R, 0, none⟩)] w fun e w' => e = .returned (.int .i64 ((dval 0 (dgs s at') : Nat))) ∧ Rdr w' R s (at' + (dgs s (at')).length) true ∧ But R w w' := by
 have HRD := hH h
 obtain ⟨c0, c1, c2, f1, f2⟩ := h.cells
 have HLK := hH (fun W (hW : W.heap = w.heap) => look_any W R s at' true (h.heap hW))
 have hl := dgs_len s (at')
 have hb45 : ((bv s at' : Int) == 45) = false := by simp; omega
 generalize bv s at' = v0 at *
 obtain ⟨b0, hb0⟩ : ∃ b0, b0 = at' := ⟨_, rfl⟩
 rw [← hb0] at hl ⊢
 have hbs : b0 ≤ s.size := by omega
 have HB0 := hH hb0
 have hl2 := hl.2 hbs
 have hl1 := hl.1
 have hb0i : (at' : Int) = (b0 : Int) := by omega
 clear h hv0 hl hb0
 go_enter Tryz.func52, Tryz.ntmps52
 go_wp2_with (go_at_call 78; refine (uh HLK _ (by rfl)).mono ?_; rintro e w' ⟨rfl, m, rfl⟩)
 go_loopw [5] (fun n wr => Hid (NumBd w wr R s b0 n)) (fun _ wr => s.size - atOf wr R)
 case atStart =>
  have := HRD.out.drewN m
  rw [← HB0.out] at this
  exact hH ⟨0, Nat.zero_le _, rfl, this, but_drewN (But.refl _ _) _⟩
 case round =>
  obtain ⟨k, hk, rfl, hrk, hb⟩ := hrel.out
  have HRK := hH hrk
  obtain ⟨y0, y1, y2, g1, g2⟩ := hrk.cells
  have hat := hrk.atOf
  have HLK2 := hH (fun W (hW : W.heap = wr.heap) => look_any W R s (b0 + k) true (hrk.heap hW))
  have hbd := dval_bd s b0 k hk
  have hcase := num_round s b0 k hk
  clear hrel hrk HLK c0 c1 c2 f1 f2
  rcases hcase with ⟨⟨v1, v2, v3⟩, hlt, hst, hle⟩ | ⟨he, hstop⟩
  · have HST := hH hst
    have hw48 := sub48 (v := (bv s (b0 + k) : Int)) (by omega) (by omega)
    have hcast : ((dval 0 ((dgs s b0).take (k + 1)) : Nat) : Int) = (dval 0 ((dgs s b0).take k) : Int) * 10 + ((bv s (b0 + k) : Int) - 48) := by rw [hst]; omega
    have HCA := hH hcast
    generalize bv s (b0 + k) = v at *
    generalize dval 0 ((dgs s b0).take k) = n at *
    clear hst hcast
    go_wp2_with (go_at_call 78; refine (uh HLK2 _ (by rfl)).mono ?_; rintro e w' ⟨rfl, m, rfl⟩)
    go_roundw
    case rel =>
     refine hH ⟨k + 1, hlt, ?_, ?_, (but_drewN hb _).trans (But.set _ _ _)⟩
     · rw [HCA.out]
     · exact (HRK.out.drewN _).set1 (b0 + k + 1)
    case measure => rw [hat]; exact Rdr.meas ((HRK.out.drewN _).set1 (b0 + k + 1)) (by omega) (by omega)
  · subst he
    have htk : (dgs s b0).take (dgs s b0).length = dgs s b0 := List.take_length
    rw [htk] at hbd ⊢
    generalize bv s (b0 + (dgs s b0).length) = v at *
    by_cases hk0 : (dgs s b0).length = 0
    · have HDK := hH (show decide (dgs s b0 = []) = true by simpa using hk0)
      have hbe : (((b0 : Int) + ((dgs s b0).length : Int)) == (b0 : Int)) = true := by simp; omega
      rcases hstop with hv | hv | ⟨hv1, hv2, hv3⟩
      · clear hk0
        go_wp2_with (go_at_call 78; refine (uh HLK2 _ (by rfl)).mono ?_; rintro e w' ⟨rfl, m, rfl⟩)
        go_ret
        refine ⟨rfl, ?_, (but_drewN hb _).trans (But.set _ _ _)⟩
        exact (HRK.out.drewN _).set2 _
      · clear hk0
        go_wp2_with (go_at_call 78; refine (uh HLK2 _ (by rfl)).mono ?_; rintro e w' ⟨rfl, m, rfl⟩)
        go_ret
        refine ⟨rfl, ?_, (but_drewN hb _).trans (But.set _ _ _)⟩
        exact (HRK.out.drewN _).set2 _
      · omega
    · have HDK := hH (show decide (dgs s b0 = []) = false by simpa using hk0)
      have hbe : (((b0 : Int) + ((dgs s b0).length : Int)) == (b0 : Int)) = false := by simp; omega
      rcases hstop with hv | hv | ⟨hv1, hv2, hv3⟩
      · clear hk0
        go_wp2_with (go_at_call 78; refine (uh HLK2 _ (by rfl)).mono ?_; rintro e w' ⟨rfl, m, rfl⟩)
        go_ret
        refine ⟨rfl, ?_, but_drewN hb _⟩
        exact HRK.out.drewN _
      · clear hk0
        go_wp2_with (go_at_call 78; refine (uh HLK2 _ (by rfl)).mono ?_; rintro e w' ⟨rfl, m, rfl⟩)
        go_ret
        refine ⟨rfl, ?_, but_drewN hb _⟩
        exact HRK.out.drewN _
      · clear hk0
        go_wp2_with (go_at_call 78; refine (uh HLK2 _ (by rfl)).mono ?_; rintro e w' ⟨rfl, m, rfl⟩)
        go_ret
        refine ⟨rfl, ?_, but_drewN hb _⟩
        exact HRK.out.drewN _
theorem num_negB (w : World) (R : Nat) (s : ByteArray) (at' : Nat) (hs : s.size ≤ 1048576) (h : Rdr w R s at' true) (hv0 : bv s at' = 45) (ha : at' < s.size) :
 Calls Tryz.prog 52 #[.pointer (some ⟨R, 0, none⟩)] w fun e w' => e = .returned (.int .i64 (-(dval 0 (dgs s (at' + 1)) : Int))) ∧ Rdr w' R s (at' + 1 + (dgs s (at' + 1)).length) true ∧ But R w w' := by
 have HRD := hH h
 obtain ⟨c0, c1, c2, f1, f2⟩ := h.cells
 have HLK := hH (fun W (hW : W.heap = w.heap) => look_any W R s at' true (h.heap hW))
 have hl := dgs_len s (at' + 1)
 have hb45 : ((bv s at' : Int) == 45) = true := by simp; omega
 generalize bv s at' = v0 at *
 obtain ⟨b0, hb0⟩ : ∃ b0, b0 = at' + 1 := ⟨_, rfl⟩
 rw [← hb0] at hl ⊢
 have hbs : b0 ≤ s.size := by omega
 have HB0 := hH hb0
 have hl2 := hl.2 hbs
 have hl1 := hl.1
 have hb0i : (at' : Int) + 1 = (b0 : Int) := by omega
 clear h hv0 hl hb0
 go_enter Tryz.func52, Tryz.ntmps52
 go_wp2_with (go_at_call 78; refine (uh HLK _ (by rfl)).mono ?_; rintro e w' ⟨rfl, m, rfl⟩)
 go_loopw [5] (fun n wr => Hid (NumBd w wr R s b0 n)) (fun _ wr => s.size - atOf wr R)
 case atStart =>
  refine hH ⟨0, Nat.zero_le _, rfl, ?_, (but_drewN (But.refl _ _) _).trans (But.set _ _ _)⟩
  have := (HRD.out.drewN m).set1 (at' + 1)
  rw [← HB0.out] at this
  exact this
 case round =>
  obtain ⟨k, hk, rfl, hrk, hb⟩ := hrel.out
  have HRK := hH hrk
  obtain ⟨y0, y1, y2, g1, g2⟩ := hrk.cells
  have hat := hrk.atOf
  have HLK2 := hH (fun W (hW : W.heap = wr.heap) => look_any W R s (b0 + k) true (hrk.heap hW))
  have hbd := dval_bd s b0 k hk
  have hcase := num_round s b0 k hk
  clear hrel hrk HLK c0 c1 c2 f1 f2
  rcases hcase with ⟨⟨v1, v2, v3⟩, hlt, hst, hle⟩ | ⟨he, hstop⟩
  · have HST := hH hst
    have hw48 := sub48 (v := (bv s (b0 + k) : Int)) (by omega) (by omega)
    have hcast : ((dval 0 ((dgs s b0).take (k + 1)) : Nat) : Int) = (dval 0 ((dgs s b0).take k) : Int) * 10 + ((bv s (b0 + k) : Int) - 48) := by rw [hst]; omega
    have HCA := hH hcast
    generalize bv s (b0 + k) = v at *
    generalize dval 0 ((dgs s b0).take k) = n at *
    clear hst hcast
    go_wp2_with (go_at_call 78; refine (uh HLK2 _ (by rfl)).mono ?_; rintro e w' ⟨rfl, m, rfl⟩)
    go_roundw
    case rel =>
     refine hH ⟨k + 1, hlt, ?_, ?_, (but_drewN hb _).trans (But.set _ _ _)⟩
     · rw [HCA.out]
     · exact (HRK.out.drewN _).set1 (b0 + k + 1)
    case measure => rw [hat]; exact Rdr.meas ((HRK.out.drewN _).set1 (b0 + k + 1)) (by omega) (by omega)
  · subst he
    have htk : (dgs s b0).take (dgs s b0).length = dgs s b0 := List.take_length
    rw [htk] at hbd ⊢
    generalize bv s (b0 + (dgs s b0).length) = v at *
    by_cases hk0 : (dgs s b0).length = 0
    · have HDK := hH (show decide (dgs s b0 = []) = true by simpa using hk0)
      have hbe : (((b0 : Int) + ((dgs s b0).length : Int)) == (b0 : Int)) = true := by simp; omega
      rcases hstop with hv | hv | ⟨hv1, hv2, hv3⟩
      · clear hk0
        go_wp2_with (go_at_call 78; refine (uh HLK2 _ (by rfl)).mono ?_; rintro e w' ⟨rfl, m, rfl⟩)
        go_ret
        refine ⟨rfl, ?_, (but_drewN hb _).trans (But.set _ _ _)⟩
        exact (HRK.out.drewN _).set2 _
      · clear hk0
        go_wp2_with (go_at_call 78; refine (uh HLK2 _ (by rfl)).mono ?_; rintro e w' ⟨rfl, m, rfl⟩)
        go_ret
        refine ⟨rfl, ?_, (but_drewN hb _).trans (But.set _ _ _)⟩
        exact (HRK.out.drewN _).set2 _
      · omega
    · have HDK := hH (show decide (dgs s b0 = []) = false by simpa using hk0)
      have hbe : (((b0 : Int) + ((dgs s b0).length : Int)) == (b0 : Int)) = false := by simp; omega
      rcases hstop with hv | hv | ⟨hv1, hv2, hv3⟩
      · clear hk0
        go_wp2_with (go_at_call 78; refine (uh HLK2 _ (by rfl)).mono ?_; rintro e w' ⟨rfl, m, rfl⟩)
        go_ret
        refine ⟨rfl, ?_, but_drewN hb _⟩
        exact HRK.out.drewN _
      · clear hk0
        go_wp2_with (go_at_call 78; refine (uh HLK2 _ (by rfl)).mono ?_; rintro e w' ⟨rfl, m, rfl⟩)
        go_ret
        refine ⟨rfl, ?_, but_drewN hb _⟩
        exact HRK.out.drewN _
      · clear hk0
        go_wp2_with (go_at_call 78; refine (uh HLK2 _ (by rfl)).mono ?_; rintro e w' ⟨rfl, m, rfl⟩)
        go_ret
        refine ⟨rfl, ?_, but_drewN hb _⟩
        exact HRK.out.drewN _
theorem num_anyB (w : World) (R : Nat) (s : ByteArray) (at' : Nat) (hs : s.size ≤ 1048576) (h : Rdr w R s at' true) (ha : at' ≤ s.size) :
 Calls Tryz.prog 52 #[.pointer (some ⟨R, 0, none⟩)] w fun e w' => ∃ (n : Int) (a2 : Nat), e = .returned (.int .i64 n) ∧ I64 n ∧ a2 ≤ s.size ∧ Rdr w' R s a2 true ∧ But R w w' := by
 by_cases hv : bv s at' = 45
 · have hlt : at' < s.size := by
    by_cases hl : at' < s.size
    · exact hl
    · unfold bv at hv; rw [dif_neg hl] at hv; omega
   have hl := dgs_len s (at' + 1)
   have hbd := dval_bd s (at' + 1) _ (Nat.le_refl _)
   rw [List.take_length] at hbd
   refine (num_negB w R s at' hs h hv hlt).mono ?_
   rintro e w' ⟨rfl, hr, hbt⟩
   exact ⟨_, _, rfl, ⟨by omega, by omega⟩, hl.2 (by omega), hr, hbt⟩
 · have hl := dgs_len s at'
   have hbd := dval_bd s at' _ (Nat.le_refl _)
   rw [List.take_length] at hbd
   refine (num_posB w R s at' hs h hv ha).mono ?_
   rintro e w' ⟨rfl, hr, hbt⟩
   exact ⟨_, _, rfl, ⟨by omega, by omega⟩, hl.2 (by omega), hr, hbt⟩
end Go.Proofs.YtbkagahmiibclaaGreatDoor
