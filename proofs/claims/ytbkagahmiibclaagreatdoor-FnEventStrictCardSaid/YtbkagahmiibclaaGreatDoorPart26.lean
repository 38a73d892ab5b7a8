/- A part. -/
import Derived.Test.YtbkagahmiibclaaGreatDoorPart25
import Derived.Test.YtbkagahmiibclaaGreatDoorPart17
namespace Go.Proofs.YtbkagahmiibclaaGreatDoor
open Go Go.RowKit
set_option maxRecDepth 100000
set_option maxHeartbeats 6400000
theorem num_gen (w : World) (R : Nat) (s : ByteArray) (at' : Nat) (bad : Bool) (hs : s.size ≤ 1048576) (h : Rdr w R s at' bad) (ha : at' ≤ s.size) :
 Calls Tryz.prog 52 #[.pointer (some ⟨R, 0, none⟩)] w fun e w' => ∃ (n : Int) (a2 : Nat) (bad2 : Bool), e = .returned (.int .i64 n) ∧ I64 n ∧ a2 ≤ s.size ∧ Rdr w' R s a2 bad2 ∧ But R w w' ∧
  (bad = false → ∀ m rest, spNum (lf s at') = some (m, rest) → n = m ∧ bad2 = false ∧ lf s a2 = rest) := by
 cases bad with
 | false =>
   refine (num_any w R s at' hs h ha).mono ?_
   rintro e w' ⟨n, a2, bad2, h1, h2, h3, h4, h5, h6, -⟩
   exact ⟨n, a2, bad2, h1, h2, h3, h4, h5, fun _ => h6⟩
 | true =>
   refine (num_anyB w R s at' hs h ha).mono ?_
   rintro e w' ⟨n, a2, h1, h2, h3, h4, h5⟩
   exact ⟨n, a2, true, h1, h2, h3, h4, h5, fun h => by cases h⟩
structure XB (w : World) (s : ByteArray) (a : Nat) (bad : Bool) (Y : Nat) (f : Nat → Value) (W : World) : Prop where
 below : Below w.heap.size w W
 ans : W.rowIs w.heap.size 28 7 (row7 (.string ⟨#[]⟩) (.int .i64 0) (.int .i64 0) (.int .i64 0) (.string ⟨#[]⟩) (.slice none 0 0) (.slice none 0 0))
 rd : Rdr W (w.heap.size + 1) s a bad
 ev : W.rowIs Y 28 7 f
 hY : w.heap.size + 1 < Y
section
variable {w W W' : World} {s : ByteArray} {a a' : Nat} {bad bad' : Bool} {Y : Nat} {f : Nat → Value}
theorem bl_but {R : Nat} (h : Below w.heap.size w W) (hb : But R W W') (hR : w.heap.size ≤ R) : Below w.heap.size w W' :=
 h.trans ⟨hb.os, hb.tape, hb.output, hb.size, fun i hi => hb.at (by have := h.size; omega) (by omega)⟩
theorem XB.next (h : XB w s a bad Y f W) (hb : But (w.heap.size + 1) W W') (hr : Rdr W' (w.heap.size + 1) s a' bad') : XB w s a' bad' Y f W' := by
 have := h.hY
 exact ⟨bl_but h.below hb (by omega), h.ans.of_block (hb.at h.ans.lt (by omega)), hr, h.ev.of_block (hb.at h.ev.lt (by omega)), h.hY⟩
theorem XB.on (h : XB w s a bad Y f W) (hb : Below W.heap.size W W') : XB w s a bad Y f W' :=
 ⟨h.below.trans (hb.mono h.below.size), h.ans.of_block (hb.block _ h.ans.lt), h.rd.below hb, h.ev.of_block (hb.block _ h.ev.lt), h.hY⟩
theorem XB.set (h : XB w s a bad Y f W) (j : Nat) (v : Value) : XB w s a bad Y (fun i => if i = j then v else f i) (W.setCell ⟨Y, j, none⟩ v) := by
 have := h.hY
 exact ⟨h.below.setCell (by simp; omega) _, h.ans.setOther (by simp; omega) _, World.rowIs.of_block h.rd (Below.heap_setCell _ _ _ _ (by simp; omega)), h.ev.set j v, h.hY⟩
end
def SrEnd (w w' : World) (s : ByteArray) (e : Ending) : Prop :=
 Below w.heap.size w w' ∧ ((∃ (ty : ByteArray) (ver : Int) (t : Tr) (c : C5), e = .returned (.tuple #[.agg #[.string ty, .int .i64 ver, c.c0, c.c1, c.c2, c.c3, c.c4], .bool true]) ∧ Rep (New w w') w' t c ∧ EvR s.data.toList ty ver t)
  ∨ (e = .returned (.tuple #[.agg #[.string ⟨#[]⟩, .int .i64 0, .int .i64 0, .int .i64 0, .string ⟨#[]⟩, .slice none 0 0, .slice none 0 0], .bool false]) ∧ ∀ ty ver t, ¬ EvR s.data.toList ty ver t))
theorem ev_sp {s ty : ByteArray} {v : Int} {t : Tr} (h : EvR s.data.toList ty v t) :
 s.size ≤ 10000 ∧ (⟨((lf s 0).takeWhile nameByte).toArray⟩ : ByteArray) = ty ∧ pre ⟨#[64]⟩ s (rn nameByte s 0) = true ∧ spNum (lf s (rn nameByte s 0 + 1)) = some (v, txT t) ∧ spT 6 (txT t) () = some (t, [], ()) ∧ s.size ≠ 0 := by
 have h0 := (ev_all h).1
 obtain ⟨h1, h2⟩ := h
 obtain ⟨a1, a2, a3, a4, a5, a6, a7⟩ := ev_parts h1 h2
 have hl0 : lf s 0 = s.data.toList := by unfold lf; simp
 have hsz : s.data.toList.length = s.size := rfl
 have hty : ty.data.toList.length = ty.size := rfl
 have hrn : rn nameByte s 0 = ty.size := by unfold rn; rw [hl0, a1]; exact hty
 have hl : lf s ty.size = 64 :: (Lib.itoa v ++ txT t) := a3
 refine ⟨h0, ?_, ?_, ?_, a7, ?_⟩
 · rw [hl0, a1]
 · rw [hrn, show (⟨#[64]⟩ : ByteArray) = w1 64 from rfl, pre_one, hl]; rfl
 · rw [hrn, lf_next, hl]; exact a5
 · rw [← hsz, ← h2]; unfold evT; simp
theorem specEventRead_any (w : World) (s : ByteArray) (hs : s.size ≤ 1048576) :
 Calls Tryz.prog 18 #[.string s] w fun e w' => SrEnd w w' s e := by
 by_cases h8 : 10000 < s.size
 · have hd : decide ((10000 : Int) < (s.size : Int)) = true := by simp; omega
   go_enter Tryz.func18, Tryz.ntmps18
   go_wp2_with fail
   refine bodyPost_ret (v := .tuple #[.agg #[.string ⟨#[]⟩, .int .i64 0, .int .i64 0, .int .i64 0, .string ⟨#[]⟩, .slice none 0 0, .slice none 0 0], .bool false]) (by simp [results, Tryz.results18, go_sem] <;> rfl) rfl ?_
   refine ⟨?_, Or.inr ⟨rfl, fun ty ver t h => by have := (ev_sp h).1; omega⟩⟩
   exact (Below.refl _ _).alloc (Nat.le_refl _) _
 · have hd : decide ((10000 : Int) < (s.size : Int)) = false := by simp; omega
   obtain ⟨W1, hW1⟩ : ∃ W1, (w.alloc (.cells #[.string ⟨#[]⟩, .int .i64 0, .int .i64 0, .int .i64 0, .string ⟨#[]⟩, .slice none 0 0, .slice none 0 0] 28)).alloc (.cells #[.string s, .int .i64 0, .bool false] 78) = W1 := ⟨_, rfl⟩
   have hrd : Rdr W1 (w.heap.size + 1) s 0 false := by
    rw [← hW1]
    have q := row3_alloc (w.alloc (.cells #[.string ⟨#[]⟩, .int .i64 0, .int .i64 0, .int .i64 0, .string ⟨#[]⟩, .slice none 0 0, .slice none 0 0] 28)) (.string s) (.int .i64 (0 : Nat)) (.bool false) 78
    rw [World.size_alloc] at q
    exact q
   have hb1 : Below w.heap.size w W1 := by rw [← hW1]; exact ((Below.refl _ w).alloc (Nat.le_refl _) _).alloc (by simp) _
   have hs1 : W1.heap.size = w.heap.size + 2 := by rw [← hW1]; simp
   have hans : W1.rowIs w.heap.size 28 7 (row7 (.string ⟨#[]⟩) (.int .i64 0) (.int .i64 0) (.int .i64 0) (.string ⟨#[]⟩) (.slice none 0 0) (.slice none 0 0)) := by rw [← hW1]; exact (row7_alloc w _ _ _ _ _ _ _ _).alloc _
   have hnm := name_any W1 (w.heap.size + 1) s 0 false hs hrd (Nat.zero_le _)
   rw [Nat.zero_add] at hnm
   have hrl := rn_le nameByte s 0 (Nat.zero_le _)
   rw [Nat.zero_add] at hrl
   have HSP := hH (fun ty v t (h : EvR s.data.toList ty v t) => ev_sp h)
   have hnsz : (⟨((lf s 0).takeWhile nameByte).toArray⟩ : ByteArray).size ≤ 9223372036854775807 := by
    have h1 : (⟨((lf s 0).takeWhile nameByte).toArray⟩ : ByteArray).size = rn nameByte s 0 := by unfold rn; simp [ByteArray.size]
    rw [h1]; omega
   generalize rn nameByte s 0 = a at *
   generalize (⟨((lf s 0).takeWhile nameByte).toArray⟩ : ByteArray) = n0 at *
   have HNM := hH hnm; have HB1 := hH hb1; have HANS := hH hans
   clear hnm hb1 hans hrd
   go_enter Tryz.func18, Tryz.ntmps18
   go_wp2_with (go_at_call 50
                refine (uh HNM).mono ?_
                rintro e w2 ⟨rfl, hr2, hb2⟩
                have hs2 := hb2.size
                have hx : XB w s a false w2.heap.size (row7 (.string n0) (.int .i64 0) (.int .i64 0) (.int .i64 0) (.string ⟨#[]⟩) (.slice none 0 0) (.slice none 0 0)) (w2.alloc (.cells #[.string n0, .int .i64 0, .int .i64 0, .int .i64 0, .string ⟨#[]⟩, .slice none 0 0, .slice none 0 0] 28)) := by
                 have hba := (Below.refl w2.heap.size w2).alloc (Nat.le_refl _) (.cells #[.string n0, .int .i64 0, .int .i64 0, .int .i64 0, .string ⟨#[]⟩, .slice none 0 0, .slice none 0 0] 28)
                 exact ⟨(bl_but (uh HB1) hb2 (by omega)).trans (hba.mono (by omega)), ((uh HANS).of_block (hb2.at (by omega) (by omega))).alloc _, hr2.below hba, row7_alloc w2 _ _ _ _ _ _ _ _, by omega⟩
                have HX := hH hx
                clear hx hr2 hb2 HNM HB1 HANS)
   generalize w2.alloc (.cells #[.string n0, .int .i64 0, .int .i64 0, .int .i64 0, .string ⟨#[]⟩, .slice none 0 0, .slice none 0 0] 28) = W3 at *
   have HEA := hH (eat_any W3 (w.heap.size + 1) s ⟨#[64]⟩ a false hs (uh HX).rd (by omega) (by decide) (by decide))
   refine (uh HEA).mono ?_
   rintro e w4 ⟨rfl, a2, bad2, hr4, hb4, hle4, -, hyes4, -⟩
   have hx4 := (uh HX).next hb4 hr4
   have hn := num_gen w4 (w.heap.size + 1) s a2 bad2 hs hr4 (hle4 hrl)
   have HN := hH hn; have HX4 := hH hx4; have HY4 := hH hyes4
   clear hn hx4 hyes4 hr4 hb4 HEA HX
   go_wp2_with fail
   refine (uh HN).mono ?_
   rintro e w5 ⟨n, a3, bad3, rfl, hn64, ha3, hr5, hb5, hyes5⟩
   have hx5 := (uh HX4).next hb5 hr5
   have p1 : w5.cell? ⟨w2.heap.size, 1, none⟩ = some (.int .i64 0) := hx5.ev.cell (i := 1) (by omega)
   have pf := hx5.ev.frozen 1
   have hx6 := hx5.set 1 (.int .i64 n)
   obtain ⟨W6, hW6⟩ : ∃ W6, w5.setCell ⟨w2.heap.size, 1, none⟩ (.int .i64 n) = W6 := ⟨_, rfl⟩
   rw [hW6] at hx6
   have hsub := spTree_all 6 (Nat.le_refl _) W6 (w.heap.size + 1) s a3 bad3 hs hx6.rd ha3
   rw [show (7 : Int) - ((6 : Nat) : Int) = 1 from by omega] at hsub
   have HSUB := hH hsub; have HX6 := hH hx6; have HY5 := hH hyes5
   have hs6 := hx6.below.size
   have hY6 := hx6.ev.lt
   clear hsub hx6 hx5 hyes5 hr5 hb5 HN HX4
   go_wp2_with fail
   refine (uh HSUB).mono ?_
   rintro e w7 ⟨t, ⟨d0, d1, d2, d3, d4⟩, a4, bad4, rfl, hrep, hr7, hb7, -, hyes7, hno7⟩
   obtain ⟨e0, e1, e2, -, -, -, ⟨ap, cp, e3, -⟩, aq, cq, e4, -⟩ := hrep.open
   simp only at e0 e1 e2 e3 e4
   subst e0 e1 e2 e3 e4
   have hall : ∀ ty' v' t', EvR s.data.toList ty' v' t' → bad4 = false ∧ a4 = s.size := fun ty' v' t' h => by
    obtain ⟨-, -, g3, g4, g5, -⟩ := uh HSP ty' v' t' h
    obtain ⟨rfl, rfl⟩ := uh HY4 g3
    obtain ⟨-, rfl, k3⟩ := uh HY5 rfl _ _ g4
    rw [k3] at hyes7 hno7
    cases bad4 with
    | true => rcases hno7 rfl with h | h
              · cases h
              · rw [g5] at h; cases h
    | false =>
      obtain ⟨m1, -, m3⟩ := hyes7 rfl
      rw [g5] at m3
      simp only [Option.some.injEq, Prod.mk.injEq] at m3
      have := lf_len s a4
      rw [← m3.2.1] at this
      simp at this
      exact ⟨rfl, by omega⟩
   have hall2 : ∀ ty' v' t', EvR s.data.toList ty' v' t' → n0 = ty' ∧ n = v' ∧ t = t' := fun ty' v' t' h => by
    have hbf := (hall ty' v' t' h).1
    obtain ⟨-, g2, g3, g4, g5, -⟩ := uh HSP ty' v' t' h
    obtain ⟨rfl, rfl⟩ := uh HY4 g3
    obtain ⟨k1, rfl, k3⟩ := uh HY5 rfl _ _ g4
    rw [k3] at hyes7
    obtain ⟨m1, -, m3⟩ := hyes7 hbf
    rw [g5] at m3
    simp only [Option.some.injEq, Prod.mk.injEq] at m3
    exact ⟨g2, k1, m3.1.symm⟩
   have hx7 := (uh HX6).next hb7 hr7
   have hs7 := hb7.size
   have q2 : w7.cell? ⟨w2.heap.size, 2, none⟩ = some (.int .i64 0) := by have := hx7.ev.cell (i := 2) (by omega); simpa [row7] using this
   have q3 : w7.cell? ⟨w2.heap.size, 3, none⟩ = some (.int .i64 0) := by have := hx7.ev.cell (i := 3) (by omega); simpa [row7] using this
   have q4 : w7.cell? ⟨w2.heap.size, 4, none⟩ = some (.string ⟨#[]⟩) := by have := hx7.ev.cell (i := 4) (by omega); simpa [row7] using this
   have q5 : w7.cell? ⟨w2.heap.size, 5, none⟩ = some (.slice none 0 0) := by have := hx7.ev.cell (i := 5) (by omega); simpa [row7] using this
   have q6 : w7.cell? ⟨w2.heap.size, 6, none⟩ = some (.slice none 0 0) := by have := hx7.ev.cell (i := 6) (by omega); simpa [row7] using this
   have qf := hx7.ev.frozen
   have hx8 := ((((hx7.set 2 (.int .i64 t.sort)).set 3 (.int .i64 t.num)).set 4 (.string t.text)).set 5 (.slice ap t.names.length cp)).set 6 (.slice aq t.kids.length cq)
   have hrep8 : Rep (fun b => W6.heap.size ≤ b ∧ b < w7.heap.size) (((((w7.setCell ⟨w2.heap.size, 2, none⟩ (.int .i64 t.sort)).setCell ⟨w2.heap.size, 3, none⟩ (.int .i64 t.num)).setCell ⟨w2.heap.size, 4, none⟩ (.string t.text)).setCell ⟨w2.heap.size, 5, none⟩ (.slice ap t.names.length cp)).setCell ⟨w2.heap.size, 6, none⟩ (.slice aq t.kids.length cq)) t ⟨.int .i64 t.sort, .int .i64 t.num, .string t.text, .slice ap t.names.length cp, .slice aq t.kids.length cq⟩ := Rep.carry (fun b hb => by have h1 : W6.heap.size ≤ b := hb.1; repeat rw [Below.heap_setCell _ _ _ _ (by simp <;> omega)]) (fun b hb => hb) _ _ hrep
   have hs8 : (((((w7.setCell ⟨w2.heap.size, 2, none⟩ (.int .i64 t.sort)).setCell ⟨w2.heap.size, 3, none⟩ (.int .i64 t.num)).setCell ⟨w2.heap.size, 4, none⟩ (.string t.text)).setCell ⟨w2.heap.size, 5, none⟩ (.slice ap t.names.length cp)).setCell ⟨w2.heap.size, 6, none⟩ (.slice aq t.kids.length cq)).heap.size = w7.heap.size := by simp
   obtain ⟨W8, hW8⟩ : ∃ W8, (((((w7.setCell ⟨w2.heap.size, 2, none⟩ (.int .i64 t.sort)).setCell ⟨w2.heap.size, 3, none⟩ (.int .i64 t.num)).setCell ⟨w2.heap.size, 4, none⟩ (.string t.text)).setCell ⟨w2.heap.size, 5, none⟩ (.slice ap t.names.length cp)).setCell ⟨w2.heap.size, 6, none⟩ (.slice aq t.kids.length cq)) = W8 := ⟨_, rfl⟩
   rw [hW8] at hx8 hrep8 hs8
   obtain ⟨c0, c1, c2, -, -⟩ := hx8.rd.cells
   have r0 : W8.cell? ⟨w2.heap.size, 0, none⟩ = some (.string n0) := by have := hx8.ev.cell (i := 0) (by omega); simpa [row7] using this
   have r1 : W8.cell? ⟨w2.heap.size, 1, none⟩ = some (.int .i64 n) := by have := hx8.ev.cell (i := 1) (by omega); simpa [row7] using this
   have r2 : W8.cell? ⟨w2.heap.size, 2, none⟩ = some (.int .i64 t.sort) := by have := hx8.ev.cell (i := 2) (by omega); simpa using this
   have r3 : W8.cell? ⟨w2.heap.size, 3, none⟩ = some (.int .i64 t.num) := by have := hx8.ev.cell (i := 3) (by omega); simpa using this
   have r4 : W8.cell? ⟨w2.heap.size, 4, none⟩ = some (.string t.text) := by have := hx8.ev.cell (i := 4) (by omega); simpa using this
   have r5 : W8.cell? ⟨w2.heap.size, 5, none⟩ = some (.slice ap t.names.length cp) := by have := hx8.ev.cell (i := 5) (by omega); simpa using this
   have r6 : W8.cell? ⟨w2.heap.size, 6, none⟩ = some (.slice aq t.kids.length cq) := by have := hx8.ev.cell (i := 6) (by omega); simpa using this
   have HX8 := hH hx8; have HR8 := hH hrep8; have HALL := hH hall; have HALL2 := hH hall2
   clear hx7 hx8 hrep8 hall hall2 hrep hr7 hb7 hyes7 hno7 HSUB HX6 HY4 HY5 HSP
   by_cases hgo : bad4 = false ∧ a4 = s.size
   · obtain ⟨rfl, rfl⟩ := hgo
     have hew := specEventWrite_any n0 n t (fun b => W6.heap.size ≤ b ∧ b < w7.heap.size) ⟨.int .i64 t.sort, .int .i64 t.num, .string t.text, .slice ap t.names.length cp, .slice aq t.kids.length cq⟩ W8 (fun b hb => by have := hb.2; omega) (uh HR8) hnsz hn64
     have HEW := hH hew
     clear hew
     go_wp2_with fail
     refine (uh HEW).mono ?_
     rintro e w9 ⟨rfl, hb9⟩
     have hx9 := (uh HX8).on hb9
     have hs9 := hb9.size
     have hrep9 := Rep.carry (w' := w9) (fun b hb => hb9.block b (by have h1 : b < w7.heap.size := hb.2; omega)) (fun b hb => hb) _ _ (uh HR8)
     obtain ⟨a0, a1⟩ := cs2 hx9.ans (by omega); have a2' := hx9.ans.cell (i := 2) (by omega); have a3' := hx9.ans.cell (i := 3) (by omega); have a4 := hx9.ans.cell (i := 4) (by omega); have a5 := hx9.ans.cell (i := 5) (by omega); have a6 := hx9.ans.cell (i := 6) (by omega)
     have af := hx9.ans.frozen
     simp only [row7] at a0 a1 a2' a3' a4 a5 a6
     have HB9 := hH hx9.below
     have k0 : w9.cell? ⟨w2.heap.size, 0, none⟩ = some (.string n0) := by have := hx9.ev.cell (i := 0) (by omega); simpa [row7] using this
     have k1 : w9.cell? ⟨w2.heap.size, 1, none⟩ = some (.int .i64 n) := by have := hx9.ev.cell (i := 1) (by omega); simpa [row7] using this
     have k2 : w9.cell? ⟨w2.heap.size, 2, none⟩ = some (.int .i64 t.sort) := by have := hx9.ev.cell (i := 2) (by omega); simpa using this
     have k3 : w9.cell? ⟨w2.heap.size, 3, none⟩ = some (.int .i64 t.num) := by have := hx9.ev.cell (i := 3) (by omega); simpa using this
     have k4 : w9.cell? ⟨w2.heap.size, 4, none⟩ = some (.string t.text) := by have := hx9.ev.cell (i := 4) (by omega); simpa using this
     have k5 : w9.cell? ⟨w2.heap.size, 5, none⟩ = some (.slice ap t.names.length cp) := by have := hx9.ev.cell (i := 5) (by omega); simpa using this
     have k6 : w9.cell? ⟨w2.heap.size, 6, none⟩ = some (.slice aq t.kids.length cq) := by have := hx9.ev.cell (i := 6) (by omega); simpa using this
     have HREP := hH hrep9
     clear hx9 hb9 hrep9 HEW HX8 HR8 r0 r1 r2 r3 r4 r5 r6 q2 q3 q4 q5 q6 qf hW8 c0 c1 c2
     have hstl := str_beq [] s
     have hstl2 : (s.toList == []) = ([] == s.toList) := Bool.beq_comm
     by_cases hok : evOkB n0 n t = true ∧ evT n0 n t = s.data.toList
     · have hu : EvR s.data.toList n0 n t := hok
       have hev : evW n0 n t = s := by unfold evW; rw [if_pos hok.1, hok.2]
       have hne := (ev_sp hu).2.2.2.2.2
       have hnl : ¬ ([] : List UInt8) = s.data.toList := fun e => hne (by have := congrArg List.length e; simpa using this.symm)
       rw [decide_eq_false hnl] at hstl
       rw [hstl] at hstl2
       have hempty : s.toList.isEmpty = false := by
        cases hx : s.toList with
        | nil => rw [hx] at hstl; simp at hstl
        | cons a b => rfl
       have hemp2 : ¬ s.toList = [] := fun e => by rw [e] at hempty; simp at hempty
       rw [hev]
       have HU := hH hu
       clear hok hu hev hne hnl HALL HALL2
       go_wp2_with fail
       refine bodyPost_ret (v := .tuple #[.agg #[.string n0, .int .i64 n, .int .i64 t.sort, .int .i64 t.num, .string t.text, .slice ap t.names.length cp, .slice aq t.kids.length cq], .bool true]) (by simp [results, Tryz.results18, go_sem, a0, a1, a2', a3', a4, a5, a6]) rfl ?_
       refine ⟨?_, Or.inl ⟨n0, n, t, ⟨_, _, _, _, _⟩, rfl, Rep.carry (fun b hb => by have h1 : W6.heap.size ≤ b := hb.1; repeat rw [Below.heap_setCell _ _ _ _ (by simp <;> omega)]) (fun b hb => ⟨by have h1 : W6.heap.size ≤ b := hb.1; omega, by have h2 : b < w7.heap.size := hb.2; simp only [World.size_setCell]; omega⟩) _ _ (uh HREP), uh HU⟩⟩
       repeat refine Below.setCell ?_ (by simp <;> omega) _
       exact uh HB9
     · have HNO := hH (show ∀ ty ver t', ¬ EvR s.data.toList ty ver t' from fun ty ver t' h => by
        obtain ⟨rfl, rfl, rfl⟩ := uh HALL2 ty ver t' h
        exact hok h)
       clear HALL HALL2
       cases hb : evOkB n0 n t with
       | true =>
         have hev : evW n0 n t = ⟨(evT n0 n t).toArray⟩ := by unfold evW; rw [if_pos hb]
         have hbe := str_beq (evT n0 n t) s
         rw [decide_eq_false (fun e => hok ⟨hb, e⟩)] at hbe
         rw [hev]
         clear hok hev hstl hstl2
         generalize evT n0 n t = X at *
         go_wp2_with fail
         refine bodyPost_ret (v := .tuple #[.agg #[.string ⟨#[]⟩, .int .i64 0, .int .i64 0, .int .i64 0, .string ⟨#[]⟩, .slice none 0 0, .slice none 0 0], .bool false]) (by simp [results, Tryz.results18, go_sem, a0, a1, a2', a3', a4, a5, a6] <;> rfl) rfl ?_
         refine ⟨?_, Or.inr ⟨rfl, uh HNO⟩⟩
         repeat refine Below.setCell ?_ (by simp <;> omega) _
         exact uh HB9
       | false =>
         have hev : evW n0 n t = ⟨#[]⟩ := by unfold evW; rw [if_neg (by rw [hb]; decide)]
         rw [hev]
         clear hok hev hb
         by_cases hemp : ([] : List UInt8) = s.data.toList
         · have hs0 : s = ⟨#[]⟩ := by
            apply ByteArray.ext
            apply Array.toList_inj.1
            rw [← hemp]
           subst hs0
           clear hstl hstl2
           go_wp2_with fail
           refine bodyPost_ret (v := .tuple #[.agg #[.string ⟨#[]⟩, .int .i64 0, .int .i64 0, .int .i64 0, .string ⟨#[]⟩, .slice none 0 0, .slice none 0 0], .bool false]) (by simp [results, Tryz.results18, go_sem, a0, a1, a2', a3', a4, a5, a6] <;> rfl) rfl ?_
           refine ⟨?_, Or.inr ⟨rfl, uh HNO⟩⟩
           repeat refine Below.setCell ?_ (by simp <;> omega) _
           exact uh HB9
         · rw [decide_eq_false hemp] at hstl
           rw [hstl] at hstl2
           have hempty : s.toList.isEmpty = false := by
            cases hx : s.toList with
            | nil => rw [hx] at hstl; simp at hstl
            | cons a b => rfl
           have hemp2 : ¬ s.toList = [] := fun e => by rw [e] at hempty; simp at hempty
           have hemp3 : ¬ [] = s.toList := fun e => hemp2 e.symm
           clear hemp
           go_wp2_with fail
           refine bodyPost_ret (v := .tuple #[.agg #[.string ⟨#[]⟩, .int .i64 0, .int .i64 0, .int .i64 0, .string ⟨#[]⟩, .slice none 0 0, .slice none 0 0], .bool false]) (by simp [results, Tryz.results18, go_sem, a0, a1, a2', a3', a4, a5, a6] <;> rfl) rfl ?_
           refine ⟨?_, Or.inr ⟨rfl, uh HNO⟩⟩
           repeat refine Below.setCell ?_ (by simp <;> omega) _
           exact uh HB9
   · have HNO := hH (show ∀ ty ver t', ¬ EvR s.data.toList ty ver t' from fun ty ver t' h => hgo (uh HALL ty ver t' h))
     obtain ⟨a0, a1⟩ := cs2 ((uh HX8).ans) (by omega); have a2' := (uh HX8).ans.cell (i := 2) (by omega); have a3' := (uh HX8).ans.cell (i := 3) (by omega); have a4' := (uh HX8).ans.cell (i := 4) (by omega); have a5 := (uh HX8).ans.cell (i := 5) (by omega); have a6 := (uh HX8).ans.cell (i := 6) (by omega)
     have af := (uh HX8).ans.frozen
     simp only [row7] at a0 a1 a2' a3' a4' a5 a6
     have HB8 := hH (uh HX8).below
     clear HALL HALL2 HX8 HR8
     cases bad4 with
     | true =>
       clear hgo
       go_wp2_with fail
       refine bodyPost_ret (v := .tuple #[.agg #[.string ⟨#[]⟩, .int .i64 0, .int .i64 0, .int .i64 0, .string ⟨#[]⟩, .slice none 0 0, .slice none 0 0], .bool false]) (by simp [results, Tryz.results18, go_sem, a0, a1, a2', a3', a4', a5, a6] <;> rfl) rfl ?_
       refine ⟨?_, Or.inr ⟨rfl, uh HNO⟩⟩
       repeat refine Below.setCell ?_ (by simp <;> omega) _
       exact uh HB8
     | false =>
       have hne : ¬ ((a4 : Int) = (s.size : Int)) := fun e => hgo ⟨rfl, by omega⟩
       clear hgo
       go_wp2_with fail
       refine bodyPost_ret (v := .tuple #[.agg #[.string ⟨#[]⟩, .int .i64 0, .int .i64 0, .int .i64 0, .string ⟨#[]⟩, .slice none 0 0, .slice none 0 0], .bool false]) (by simp [results, Tryz.results18, go_sem, a0, a1, a2', a3', a4', a5, a6] <;> rfl) rfl ?_
       refine ⟨?_, Or.inr ⟨rfl, uh HNO⟩⟩
       repeat refine Below.setCell ?_ (by simp <;> omega) _
       exact uh HB8

def EvAns (W w' : World) (e : Ending) (ty : ByteArray) (ver : Int) (t : Tr) (ok : Bool) : Prop :=
 ∃ (y0 y1 : Int) (y2 : ByteArray) (ap : Option Addr) (np cp : Nat) (aq : Option Addr) (nq cq : Nat), e = .returned (.tuple #[.agg #[.string ty, .int .i64 ver, .int .i64 y0, .int .i64 y1, .string y2, .slice ap np cp, .slice aq nq cq], .bool ok]) ∧ Hid (Rep (fun x => x < w'.heap.size) w' t ⟨.int .i64 y0, .int .i64 y1, .string y2, .slice ap np cp, .slice aq nq cq⟩) ∧ Hid (Below W.heap.size W w')
theorem EvAns.none {W w' : World} (hb : Below W.heap.size W w') : EvAns W w' (.returned (.tuple #[.agg #[.string ⟨#[]⟩, .int .i64 0, .int .i64 0, .int .i64 0, .string ⟨#[]⟩, .slice none 0 0, .slice none 0 0], .bool false])) ⟨#[]⟩ 0 (.mk 0 0 ByteArray.empty [] []) false :=
 ⟨_, _, _, _, _, _, _, _, _, rfl, Own.rep _ _ [] (fun x hx => by cases hx) (Own.leafT _ 0 0 ByteArray.empty ⟨by decide, by decide⟩ ⟨by decide, by decide⟩ (by simp)), hb⟩
theorem EvAns.some {P : Nat → Prop} {W w' : World} {ty : ByteArray} {ver : Int} {t : Tr} {c : C5} (h : Rep P w' t c) (hP : ∀ x, P x → x < w'.heap.size) (hb : Below W.heap.size W w') : EvAns W w' (.returned (.tuple #[.agg #[.string ty, .int .i64 ver, c.c0, c.c1, c.c2, c.c3, c.c4], .bool true])) ty ver t true := by
 obtain ⟨c0, c1, c2, c3, c4⟩ := c
 have h' : Rep (fun x => x < w'.heap.size) w' t ⟨c0, c1, c2, c3, c4⟩ := Rep.carry (fun _ _ => rfl) hP _ _ h
 obtain ⟨g0, g1, g2, -, -, -, ⟨ap, cp, g3, -⟩, aq, cq, g4, -⟩ := h'.open
 simp only at g0 g1 g2 g3 g4
 subst g0 g1 g2 g3 g4
 exact ⟨_, _, _, _, _, _, _, _, _, rfl, h', hb⟩
theorem up_one (b : List UInt8) : ∃ (ty : ByteArray) (ver : Int) (t : Tr) (ok : Bool), (ok = true → UpE b ty ver t) ∧ ∀ W w' e, UpEnd W w' b e → EvAns W w' e ty ver t ok := by
 by_cases hex : ∃ ty ver t, UpE b ty ver t
 · obtain ⟨ty, ver, t, hu⟩ := hex
   refine ⟨ty, ver, t, true, fun _ => hu, ?_⟩
   rintro w w' e ⟨hb, h | ⟨-, hno⟩⟩
   · obtain ⟨ty', ver', t', c, F, rfl, ho, -, hF, hu'⟩ := h
     obtain ⟨rfl, rfl, rfl⟩ := hu.same hu'
     exact EvAns.some (Own.rep _ _ F (fun _ h => h) ho) (fun x hx => (hF x hx).2) hb
   · exact absurd hu (hno ty ver t)
 · refine ⟨⟨#[]⟩, 0, .mk 0 0 ByteArray.empty [] [], false, (fun h => by cases h), ?_⟩
   rintro w w' e ⟨hb, h | ⟨rfl, -⟩⟩
   · obtain ⟨ty', ver', t', c, F, -, -, -, -, hu'⟩ := h
     exact absurd ⟨_, _, _, hu'⟩ hex
   · exact EvAns.none hb
theorem er_one (s : ByteArray) : ∃ (ty : ByteArray) (ver : Int) (t : Tr) (ok : Bool), (ok = true → EvR s.data.toList ty ver t) ∧ (ok = false → ver = 0) ∧ (∀ W w' e, SrEnd W w' s e → EvAns W w' e ty ver t ok) ∧ ∀ W w' e, ErEnd W w' s e → EvAns W w' e ty ver t ok := by
 by_cases hex : ∃ ty ver t, EvR s.data.toList ty ver t
 · obtain ⟨ty, ver, t, hu⟩ := hex
   refine ⟨ty, ver, t, true, fun _ => hu, (fun h => by cases h), ?_, ?_⟩
   · rintro w w' e ⟨hb, h | ⟨-, hno⟩⟩
     · obtain ⟨ty', ver', t', c, rfl, ho, hu'⟩ := h
       obtain ⟨rfl, rfl, rfl⟩ := hu.same hu'
       exact EvAns.some ho (fun x hx => hx.2) hb
     · exact absurd hu (hno ty ver t)
   · rintro w w' e ⟨hb, h | ⟨-, hno⟩⟩
     · obtain ⟨ty', ver', t', c, F, rfl, ho, -, hF, hu'⟩ := h
       obtain ⟨rfl, rfl, rfl⟩ := hu.same hu'
       exact EvAns.some (Own.rep _ _ F (fun _ h => h) ho) (fun x hx => (hF x hx).2) hb
     · exact absurd hu (hno ty ver t)
 · refine ⟨⟨#[]⟩, 0, .mk 0 0 ByteArray.empty [] [], false, (fun h => by cases h), fun _ => rfl, ?_, ?_⟩
   · rintro w w' e ⟨hb, h | ⟨rfl, -⟩⟩
     · obtain ⟨ty', ver', t', c, -, -, hu'⟩ := h
       exact absurd ⟨_, _, _, hu'⟩ hex
     · exact EvAns.none hb
   · rintro w w' e ⟨hb, h | ⟨rfl, -⟩⟩
     · obtain ⟨ty', ver', t', c, F, -, -, -, -, hu'⟩ := h
       exact absurd ⟨_, _, _, hu'⟩ hex
     · exact EvAns.none hb
structure Two (w W : World) (ty : ByteArray) (ver : Int) (t : Tr) (c d : C5) (X Y : Nat) (v : Value) (b : List UInt8) : Prop where
 x : EvBx w W ty ver t c X
 y : EvBx w W ty ver t d Y
 row : ByRow 0 W v b
theorem Two.on {w W W' : World} {ty : ByteArray} {ver : Int} {t : Tr} {c d : C5} {X Y : Nat} {v : Value} {b : List UInt8} (h : Two w W ty ver t c d X Y v b) (hb : Below W.heap.size W W') : Two w W' ty ver t c d X Y v b := ⟨h.x.on hb, h.y.on hb, h.row.stay hb⟩
theorem Two.drew {w W : World} {ty : ByteArray} {ver : Int} {t : Tr} {c d : C5} {X Y : Nat} {v : Value} {b : List UInt8} (h : Two w W ty ver t c d X Y v b) : Two w W.drew ty ver t c d X Y v b := h.on (Below.refl _ W).drew

structure SR (R : Nat) (w : World) (v : Value) (b : List UInt8) (a : Nat) (bad : Bool) : Prop where
 cells : w.rowIs R 69 3 (row3 v (.int .i64 a) (.bool bad))
 row : ByRow 0 w v b
 own : ∀ g, v.ownBlock = some g → g < R
 le : a ≤ b.length
 small : b.length ≤ 1048576
theorem SR.but {R : Nat} {w w' : World} {v : Value} {b : List UInt8} {a a' : Nat} {bad bad' : Bool} (h : SR R w v b a bad) (hb : But R w w') (hc : w'.rowIs R 69 3 (row3 v (.int .i64 a') (.bool bad'))) (hle : a' ≤ b.length) : SR R w' v b a' bad' :=
 ⟨hc, World.ownsRow.kept h.row hb (by
  rcases e : v.ownBlock with _ | g
  · exact Or.inl rfl
  · exact Or.inr (fun e2 => by have := h.own g e; simp at e2; omega)), h.own, hle, h.small⟩
theorem SR.on {R : Nat} {w w' : World} {v : Value} {b : List UInt8} {a : Nat} {bad : Bool} (h : SR R w v b a bad) (hb : Below w.heap.size w w') : SR R w' v b a bad :=
 ⟨h.cells.of_block (hb.block _ h.cells.lt), h.row.stay hb, h.own, h.le, h.small⟩
theorem row3_un1 {w : World} {B : Nat} {T : TypeId} {x y z : Value} (h : w.rowIs B T 3 (row3 x y z)) (v : Value) : (w.setCell ⟨B, 1, none⟩ v).rowIs B T 3 (row3 x v z) :=
 (h.set 1 v).congr fun i hi => by
   rcases (show i = 0 ∨ i = 1 ∨ i = 2 by omega) with rfl | rfl | rfl <;> rfl
theorem one_yes (R : Nat) (w : World) (v : Value) (b : List UInt8) (a : Nat) (bad : Bool) (h : SR R w v b a bad) (hlt : a < b.length) :
 Calls Tryz.prog 45 #[.pointer (some ⟨R, 0, none⟩)] w fun e w' => e = .returned (.int .i64 (b[a].toNat : Int)) ∧ SR R w' v b (a + 1) bad ∧ But R w w' := by
 obtain ⟨k0, k1⟩ := cs2 h.cells (by omega); have f1 := h.cells.frozen 1
 obtain ⟨g, cap, hv, -, -, -⟩ := h.row.form (by omega)
 subst hv
 have hc := h.row.part a hlt
 have hgR := h.own g rfl
 have hne : g ≠ R := by omega
 have hne2 : R ≠ g := by omega
 simp only [row3] at k0 k1
 have hsm := h.small
 have hx8 := b[a].toNat_lt
 have hq : decide ((b.length : Int) ≤ a) = false := by simp; omega
 have hi1 : (a : Int) < b.length := by omega
 have hi2 : (a : Int) + 1 - 1 = a := by omega
 have H := hH h
 generalize b[a].toNat = x at *
 clear h
 go_enter Tryz.func45, Tryz.ntmps45
 go_wp2_with fail
 go_region
 all_goals
  go_wp2_with fail
  go_region
  all_goals
   go_wp2_with fail
   go_ret
   have hb : But R w (w.setCell ⟨R, 1, none⟩ (.int .i64 ((a : Int) + 1))).drew.drew := (But.set w 1 _).trans (But.of_below (Below.refl _ _).drew.drew)
   exact ⟨rfl, (uh H).but hb ((row3_un1 (uh H).cells _).of_block rfl) (by omega), hb⟩
theorem one_no (R : Nat) (w : World) (v : Value) (b : List UInt8) (a : Nat) (bad : Bool) (h : SR R w v b a bad) (hlt : b.length ≤ a) :
 Calls Tryz.prog 45 #[.pointer (some ⟨R, 0, none⟩)] w fun e w' => e = .returned (.int .i64 0) ∧ SR R w' v b a true ∧ But R w w' := by
 obtain ⟨k0, k1, k2⟩ := cs3 h.cells (by omega); have f2 := h.cells.frozen 2
 obtain ⟨av, cap, hv⟩ := h.row.slice
 subst hv
 simp only [row3] at k0 k1 k2
 have hsm := h.small
 have hle := h.le
 have hq : decide ((b.length : Int) ≤ a) = true := by simp; omega
 have H := hH h
 clear h
 go_enter Tryz.func45, Tryz.ntmps45
 go_wp2_with fail
 go_region
 all_goals
  go_wp2_with fail
  go_ret
  have hb : But R w (w.drew.setCell ⟨R, 2, none⟩ (.bool true)) := (But.of_below (Below.refl _ _).drew).trans (But.set w.drew 2 _)
  exact ⟨rfl, (uh H).but hb (row3_pk2 (w := w.drew) (uh H).cells _) (by omega), hb⟩
theorem short_yes (R : Nat) (w : World) (v : Value) (b : List UInt8) (a : Nat) (bad : Bool) (s : ByteArray) (rest : List UInt8) (h : SR R w v b a bad) (hp : ptx (b.drop a) = some (s, rest)) :
 Calls Tryz.prog 44 #[.pointer (some ⟨R, 0, none⟩)] w fun e w' => e = .returned (.string s) ∧ (∃ a', a < a' ∧ SR R w' v b a' bad ∧ rest = b.drop a') ∧ But R w w' := by
 obtain ⟨ha, hle, hs, hr⟩ := ptx_yes hp
 have HN := hH (one_yes R w v b a bad h ha)
 have hsm := h.small
 have hx8 := b[a].toNat_lt
 rw [hs]
 clear h hp hs
 generalize b[a].toNat = n at *
 have HR := hH hr
 clear hr
 go_enter Tryz.func44, Tryz.ntmps44
 go_wp2_with fail
 refine (uh HN).mono ?_
 rintro e w1 ⟨rfl, hsr1, hb1⟩
 obtain ⟨k0, k1⟩ := cs2 hsr1.cells (by omega); have f1 := hsr1.cells.frozen 1
 simp only [row3] at k0 k1
 obtain ⟨g, capv, hv, -, -, -⟩ := hsr1.row.form (by omega)
 subst hv
 have hcap : b.length ≤ capv := by
  rcases hsr1.row.2 with ⟨hv, h0⟩ | ⟨g, cap', cur, hv, _, _, hle, _⟩
  · omega
  · simp only [Value.slice.injEq] at hv; omega
 have hby := cut_bytes (w := w1) hsr1.row (a + 1) n hle hcap hsm
 have HSR := hH hsr1; have HB1 := hH hb1
 have hq : decide ((b.length : Int) - ((a : Int) + 1) < n) = false := by simp; omega
 have hi1 : (a : Int) + 1 + n - n = (a : Int) + 1 := by omega
 have hi2 : (a : Int) + 1 ≤ (a : Int) + 1 + n := by omega
 have hi3 : (a : Int) + 1 + n ≤ capv := by omega
 have hbW : But R w1 (w1.setCell ⟨R, 1, none⟩ (.int .i64 ((a : Int) + 1 + n))).drew.drew := (But.set w1 1 _).trans (But.of_below (Below.refl _ _).drew.drew)
 have HN2 := hH (hsr1.but (bad' := bad) hbW (by rw [show (((a + 1 + n : Nat) : Int)) = (a : Int) + 1 + n from by omega]; exact (row3_un1 hsr1.cells _).of_block rfl) hle)
 have hbyW : BytesAt (w1.setCell ⟨R, 1, none⟩ (.int .i64 ((a : Int) + 1 + n))).drew.drew (.slice (if capv = a + 1 then some ⟨g, 0, none⟩ else Option.map (fun (x : Addr) => x.add (a + 1)) (some (⟨g, 0, none⟩ : Addr))) (a + 1 + n - (a + 1)) (capv - (a + 1))) ((b.drop (a + 1)).take n) := cut_bytes (uh HN2).row (a + 1) n hle hcap hsm
 have hconv := hbyW.str
 have HB2 := hH (hb1.trans hbW)
 have HAW := hH (show a < a + 1 + n from by omega)
 clear hsr1 hb1 HN hby hbyW hbW
 have hi0 : 0 ≤ (a : Int) + 1 + n := by omega
 have hi4 : 0 ≤ (a : Int) + 1 := by omega
 have hwr : IntKind.i64.wrap ((a : Int) + 1) = (a : Int) + 1 := by rw [IntKind.wrap_i64]; omega
 have hna : ((a : Int) + 1).toNat = a + 1 := by omega
 have hnb : ((a : Int) + 1 + n).toNat = a + 1 + n := by omega
 by_cases hca : capv = a + 1
 · subst hca
   have hn0 : n = 0 := by omega
   subst hn0
   rw [if_pos rfl] at hconv
   simp only [Nat.add_zero, Nat.sub_self, Int.natCast_zero, Int.add_zero] at hconv
   simp only [List.take_zero] at hconv ⊢
   go_wp2_with fail
   go_region
   all_goals
    go_wp2_with fail
    go_region_law (fail)
    all_goals
     go_wp2_with fail
     go_ret
     exact ⟨rfl, ⟨_, uh HAW, uh HN2, uh HR⟩, uh HB2⟩
 · rw [if_neg hca] at hconv
   simp only [Option.map_some, Addr.add_lit, Nat.zero_add, Nat.add_sub_cancel_left] at hconv
   go_wp2_with fail
   go_region
   all_goals
    go_wp2_with fail
    go_region_law (fail)
    all_goals
     go_wp2_with fail
     go_ret
     exact ⟨rfl, ⟨_, uh HAW, uh HN2, uh HR⟩, uh HB2⟩
theorem short_no (R : Nat) (w : World) (v : Value) (b : List UInt8) (a : Nat) (bad : Bool) (h : SR R w v b a bad) (hp : ptx (b.drop a) = none) :
 Calls Tryz.prog 44 #[.pointer (some ⟨R, 0, none⟩)] w fun e w' => (∃ s : ByteArray, e = .returned (.string s) ∧ s.size ≤ 255) ∧ (∃ a', SR R w' v b a' true) ∧ But R w w' := by
 have hsm := h.small
 by_cases ha : a < b.length
 · have hgt : b.length < a + 1 + b[a].toNat := by
    rw [List.drop_eq_getElem_cons ha, ptx] at hp
    split at hp
    · cases hp
    · rename_i hn
      simp at hn
      omega
   have hx8 := b[a].toNat_lt
   have HN := hH (one_yes R w v b a bad h ha)
   clear h hp
   generalize b[a].toNat = n at *
   go_enter Tryz.func44, Tryz.ntmps44
   go_wp2_with fail
   refine (uh HN).mono ?_
   rintro e w1 ⟨rfl, hsr1, hb1⟩
   obtain ⟨k0, k1, k2⟩ := cs3 hsr1.cells (by omega); have f2 := hsr1.cells.frozen 2
   simp only [row3] at k0 k1 k2
   obtain ⟨av, capv, hv⟩ := hsr1.row.slice
   subst hv
   have hq : decide ((b.length : Int) - ((a : Int) + 1) < n) = true := by simp; omega
   have hq2 : (b.length : Int) - ((a : Int) + 1) < n := by omega
   have HSR := hH hsr1; have HB1 := hH hb1
   clear hsr1 hb1 HN
   go_wp2_with fail
   go_region
   all_goals
    go_wp2_with fail
    go_ret
    have hb : But R w1 (w1.drew.setCell ⟨R, 2, none⟩ (.bool true)) := (But.of_below (Below.refl _ _).drew).trans (But.set w1.drew 2 _)
    exact ⟨⟨_, rfl, by decide⟩, ⟨a + 1, (uh HSR).but hb (row3_pk2 (w := w1.drew) (uh HSR).cells _) (by omega)⟩, (uh HB1).trans hb⟩
 · have hle := h.le
   have HN := hH (one_no R w v b a bad h (by omega))
   clear h hp
   have hab : a = b.length := by omega
   go_enter Tryz.func44, Tryz.ntmps44
   go_wp2_with fail
   refine (uh HN).mono ?_
   rintro e w1 ⟨rfl, hsr1, hb1⟩
   obtain ⟨k0, k1⟩ := cs2 hsr1.cells (by omega); have f1 := hsr1.cells.frozen 1
   simp only [row3] at k0 k1
   have hq : decide ((b.length : Int) - (a : Int) < 0) = false := by simp; omega
   have hi1 : (a : Int) - 0 = a := by omega
   have hi0 : 0 ≤ (a : Int) := by omega
   have hwr : IntKind.i64.wrap (a : Int) = (a : Int) := by rw [IntKind.wrap_i64]; omega
   have hbW : But R w1 (w1.setCell ⟨R, 1, none⟩ (.int .i64 (a : Int))).drew.drew := (But.set w1 1 _).trans (But.of_below (Below.refl _ _).drew.drew)
   have HB2 := hH (hb1.trans hbW)
   rcases hsr1.row.2 with ⟨hv, h0⟩ | ⟨g, capv, cur, hv, -, -, hcap, -, -, -⟩
   · subst hv
     have HN2 := hH (hsr1.but (bad' := true) hbW ((row3_un1 hsr1.cells _).of_block rfl) hle)
     have hby : BytesAt (w1.setCell ⟨R, 1, none⟩ (.int .i64 (a : Int))).drew.drew (.slice none 0 0) [] := ⟨none, 0, rfl, by decide, fun i hi => by simp at hi⟩
     have hconv := hby.str
     have ha0 : a = 0 := by omega
     subst ha0
     simp only [Int.natCast_zero] at *
     clear hsr1 hb1 HN hby hbW hab h0
     go_wp2_with fail
     go_region
     all_goals
      go_wp2_with fail
      go_region_law (fail)
      all_goals
       go_wp2_with fail
       go_ret
       exact ⟨⟨_, rfl, by decide⟩, ⟨_, uh HN2⟩, uh HB2⟩
   · subst hv
     have HN2 := hH (hsr1.but (bad' := true) hbW ((row3_un1 hsr1.cells _).of_block rfl) hle)
     have hby := cut_bytes (uh HN2).row a 0 (by omega) hcap hsm
     have hconv := hby.str
     simp only [List.take_zero, Nat.add_zero, Nat.sub_self] at hconv
     have hi3 : (a : Int) ≤ capv := by omega
     clear hsr1 hb1 HN hby hbW hab
     by_cases hca : capv = a
     · subst hca
       rw [if_pos rfl] at hconv
       simp only [Nat.sub_self] at hconv
       go_wp2_with fail
       go_region
       all_goals
        go_wp2_with fail
        go_region_law (fail)
        all_goals
         go_wp2_with fail
         go_ret
         exact ⟨⟨_, rfl, by decide⟩, ⟨_, uh HN2⟩, uh HB2⟩
     · rw [if_neg hca] at hconv
       simp only [Option.map_some, Addr.add_lit, Nat.zero_add] at hconv
       go_wp2_with fail
       go_region
       all_goals
        go_wp2_with fail
        go_region_law (fail)
        all_goals
         go_wp2_with fail
         go_ret
         exact ⟨⟨_, rfl, by decide⟩, ⟨_, uh HN2⟩, uh HB2⟩

theorem sevB_head {m : Nat} {l rest : List UInt8} {x : UInt8} (h : x :: l = sevB m ++ rest) : (m ≤ 127 ∧ x.toNat = m ∧ l = rest) ∨ (127 < m ∧ x.toNat = 128 + m % 128 ∧ l = sevB (m / 128) ++ rest) := by
 by_cases hm : 127 < m
 · rw [sevB_more hm] at h
   simp only [List.cons_append, List.cons.injEq] at h
   refine Or.inr ⟨hm, ?_, h.2⟩
   rw [h.1]; simp; omega
 · rw [sevB_last hm] at h
   simp only [List.cons_append, List.nil_append, List.cons.injEq] at h
   refine Or.inl ⟨by omega, ?_, h.2⟩
   rw [h.1]; simp; omega
def NumOk (b : List UInt8) (a0 a' : Nat) (bad0 bad' : Bool) (j n p : Nat) : Prop :=
 ∀ m rest, bad0 = false → m ≤ 999999999 → b.drop a0 = sevB m ++ rest → bad' = false ∧ ∃ m', b.drop a' = sevB m' ++ rest ∧ n + m' * p = m ∧ (j = 0 ∨ 0 < m')
def NuEnd (R : Nat) (w w' : World) (v : Value) (b : List UInt8) (a : Nat) (bad : Bool) (e : Ending) : Prop :=
 ∃ (u : Int) (a' : Nat) (bad' : Bool), e = .returned (.int .i64 u) ∧ I64 u ∧ SR R w' v b a' bad' ∧ But R w w' ∧ (bad = false → ∀ x rest, x.natAbs ≤ 999999999 → b.drop a = numB x ++ rest → u = x ∧ bad' = false ∧ b.drop a' = rest)
theorem one_any (R : Nat) (w : World) (v : Value) (b : List UInt8) (a : Nat) (bad : Bool) (h : SR R w v b a bad) :
 Calls Tryz.prog 45 #[.pointer (some ⟨R, 0, none⟩)] w fun e w' => ∃ (x a1 : Nat) (bad1 : Bool), e = .returned (.int .i64 (x : Int)) ∧ x ≤ 255 ∧ Hid (SR R w' v b a1 bad1) ∧ Hid (But R w w') ∧ Hid ((∃ l, b.drop a = UInt8.ofNat x :: l ∧ l = b.drop a1 ∧ bad1 = bad ∧ a < a1) ∨ (b.drop a = [] ∧ x = 0 ∧ bad1 = true ∧ a1 = a)) := by
 by_cases hlt : a < b.length
 · refine (one_yes R w v b a bad h hlt).mono ?_
   rintro e w' ⟨rfl, h1, h2⟩
   have := b[a].toNat_lt
   exact ⟨b[a].toNat, a + 1, bad, rfl, by omega, h1, h2, Or.inl ⟨b.drop (a + 1), by rw [u8_back]; exact List.drop_eq_getElem_cons hlt, rfl, rfl, by omega⟩⟩
 · refine (one_no R w v b a bad h (by omega)).mono ?_
   rintro e w' ⟨rfl, h1, h2⟩
   exact ⟨0, a, true, rfl, by omega, h1, h2, Or.inr ⟨List.drop_eq_nil_of_le (by omega), rfl, rfl, rfl⟩⟩
theorem NumOk.more {b : List UInt8} {a0 a' a2 : Nat} {bad0 bad' bad2 : Bool} {j n p x : Nat} (h : NumOk b a0 a' bad0 bad' j n p) (hx : x ≤ 255) (h128 : ¬ x < 128)
 (hc : (∃ l, b.drop a' = UInt8.ofNat x :: l ∧ l = b.drop a2 ∧ bad2 = bad' ∧ a' < a2) ∨ (b.drop a' = [] ∧ x = 0 ∧ bad2 = true ∧ a2 = a')) : NumOk b a0 a2 bad0 bad2 (j + 1) (n + x % 128 * p) (p * 128) := by
 intro m rest h0 hm hd
 obtain ⟨h1, m', h2, h3, h4⟩ := h m rest h0 hm hd
 rcases hc with ⟨l, e1, e2, e3, -⟩ | ⟨-, e2, -⟩
 · rw [e1] at h2
   have hxx : (UInt8.ofNat x).toNat = x := by simp; omega
   rcases sevB_head h2 with ⟨q1, q2, -⟩ | ⟨q1, q2, q3⟩
   · omega
   · refine ⟨by rw [e3]; exact h1, m' / 128, by rw [← e2]; exact q3, ?_, Or.inr (by omega)⟩
     have hx2 : x % 128 = m' % 128 := by omega
     rw [hx2, ← h3]
     have : m' * p = m' % 128 * p + m' / 128 * (p * 128) := by
      have h5 : m' = m' % 128 + m' / 128 * 128 := by omega
      rw [Nat.mul_comm p 128, ← Nat.mul_assoc, ← Nat.add_mul, ← h5]
     omega
 · omega
theorem NumOk.last {b : List UInt8} {a0 a' a2 : Nat} {bad0 bad' bad2 : Bool} {j n p x : Nat} (h : NumOk b a0 a' bad0 bad' j n p) (hx : x ≤ 255) (h128 : x < 128)
 (hc : (∃ l, b.drop a' = UInt8.ofNat x :: l ∧ l = b.drop a2 ∧ bad2 = bad' ∧ a' < a2) ∨ (b.drop a' = [] ∧ x = 0 ∧ bad2 = true ∧ a2 = a')) (m : Nat) (rest : List UInt8) (h0 : bad0 = false) (hm : m ≤ 999999999) (hd : b.drop a0 = sevB m ++ rest) :
 n + x % 128 * p = m ∧ bad2 = false ∧ b.drop a2 = rest := by
 obtain ⟨h1, m', h2, h3, h4⟩ := h m rest h0 hm hd
 rcases hc with ⟨l, e1, e2, e3, -⟩ | ⟨e1, -, -⟩
 · rw [e1] at h2
   have hxx : (UInt8.ofNat x).toNat = x := by simp; omega
   rcases sevB_head h2 with ⟨q1, q2, q3⟩ | ⟨q1, q2, -⟩
   · refine ⟨?_, by rw [e3]; exact h1, by rw [← e2]; exact q3⟩
     rw [Nat.mod_eq_of_lt h128, show x = m' from by omega]; exact h3
   · omega
 · rw [e1] at h2
   by_cases hm' : 127 < m'
   · rw [sevB_more hm'] at h2; cases h2
   · rw [sevB_last hm'] at h2; cases h2
theorem NumOk.over {b : List UInt8} {a0 a' : Nat} {bad0 bad' : Bool} {n p : Nat} (h : NumOk b a0 a' bad0 bad' 5 n p) (hp : p = 34359738368) (m : Nat) (rest : List UInt8) (h0 : bad0 = false) (hm : m ≤ 999999999) (hd : b.drop a0 = sevB m ++ rest) : False := by
 obtain ⟨-, m', -, h3, h4⟩ := h m rest h0 hm hd
 subst hp
 omega
theorem numS_any (R : Nat) (w : World) (v : Value) (b : List UInt8) (a : Nat) (bad : Bool) (h : SR R w v b a bad) :
 Calls Tryz.prog 77 #[.pointer (some ⟨R, 0, none⟩)] w fun e w' => NuEnd R w w' v b a bad e := by
 have HN := hH (one_any R w v b a bad h)
 clear h
 go_enter Tryz.func77, Tryz.ntmps77
 go_wp2_with fail
 refine (uh HN).mono ?_
 rintro e w1 ⟨ng, a1, bad1, rfl, hng, HS1, HB1, HC1⟩
 have HFIN : Hid (bad = false → ∀ (x : Int) rest, x.natAbs ≤ 999999999 → b.drop a = numB x ++ rest → bad1 = false ∧ b.drop a1 = sevB x.natAbs ++ rest ∧ (x < 0 ↔ ng = 1)) := fun hb x rest hx hd => by
  rcases HC1.out with ⟨l, e1, e2, e3, -⟩ | ⟨e1, -⟩
  · rw [e1, numB, List.cons_append] at hd
    simp only [List.cons.injEq] at hd
    refine ⟨by rw [e3]; exact hb, by rw [← e2]; exact hd.2, ?_⟩
    have hv := congrArg UInt8.toNat hd.1
    rw [show (UInt8.ofNat ng).toNat = ng from by simp; omega] at hv
    by_cases hneg : x < 0
    · rw [if_pos hneg] at hv; simp at hv; omega
    · rw [if_neg hneg] at hv; simp at hv; omega
  · rw [e1, numB] at hd; cases hd
 clear HN HC1
 go_wp2_with fail
 go_loopw [4, 5, 6] (fun nn pl kk wr => ∃ (j n p a' : Nat) (bad' : Bool), nn = .int .i64 (n : Int) ∧ pl = .int .i64 (p : Int) ∧ kk = .int .i64 (j : Int) ∧ j ≤ 5 ∧ Hid (p = 128 ^ j) ∧ n < p ∧ p ≤ 34359738368 ∧ Hid (SR R wr v b a' bad') ∧ Hid (But R w wr) ∧ Hid (NumOk b a1 a' bad1 bad' j n p)) (fun _ _ kk _ => 5 - (intOf kk).toNat)
 case atStart => exact ⟨0, 0, 1, a1, bad1, rfl, rfl, rfl, by omega, rfl, by omega, by omega, HS1, HB1, fun m rest h0 _ hd => ⟨h0, m, hd, by omega, Or.inl rfl⟩⟩
 case round =>
  clear HS1 HB1
  obtain ⟨j, n, p, a', bad', rfl, rfl, rfl, hj, HP, hnp, hp9, HS, HB, HNO⟩ := hrel
  by_cases hj5 : j < 5
  · have hpb := pow_bound (r := j) hj5
    rw [← HP.out] at hpb
    obtain ⟨hpb1, hpb0⟩ := hpb
    have HN := hH (one_any R wr v b a' bad' HS.out)
    have hp2 : p * 128 = 128 ^ (j + 1) := by rw [HP.out, Nat.pow_succ]
    have HP2 := hH hp2
    clear hp2 HP
    go_wp2_with fail
    refine (uh HN).mono ?_
    rintro e w2 ⟨x, a2, bad2, rfl, hx, HS2, HB2, HC2⟩
    obtain ⟨q, hq⟩ : ∃ q, q = x % 128 * p := ⟨_, rfl⟩
    have hqi : ((x : Int) % 128) * (p : Int) = (q : Int) := by rw [hq]; simp
    have hqb : q ≤ 127 * 268435456 := by rw [hq]; exact Nat.mul_le_mul (by omega) hpb1
    have hql : q ≤ 127 * p := by rw [hq]; exact Nat.mul_le_mul_right p (by omega)
    by_cases h128 : x < 128
    · have hl := fun m rest h0 hm hd => NumOk.last HNO.out hx h128 HC2.out m rest h0 hm hd
      rw [← hq] at hl
      have HL := hH hl
      have HB3 := hH (HB.out.trans HB2.out)
      clear hl hq HN HNO HC2
      by_cases hn1 : ng = 1
      · subst hn1
        go_wp2_with fail
        go_ret
        refine ⟨_, a2, bad2, rfl, ⟨by omega, by omega⟩, HS2.out, uh HB3, fun hb y rest hy hd => ?_⟩
        obtain ⟨g1, g2, g3⟩ := HFIN.out hb y rest hy hd
        obtain ⟨k1, k2, k3⟩ := uh HL _ rest g1 (by omega) g2
        have := g3.2 (by first | rfl | trivial)
        exact ⟨by omega, k2, k3⟩
      · have hn1b : ((ng : Int) == 1) = false := by simp; omega
        go_wp2_with fail
        go_ret
        refine ⟨_, a2, bad2, rfl, ⟨by omega, by omega⟩, HS2.out, uh HB3, fun hb y rest hy hd => ?_⟩
        obtain ⟨g1, g2, g3⟩ := HFIN.out hb y rest hy hd
        obtain ⟨k1, k2, k3⟩ := uh HL _ rest g1 (by omega) g2
        have : ¬ y < 0 := fun hh => hn1 (g3.1 hh)
        exact ⟨by omega, k2, k3⟩
    · have hm := NumOk.more HNO.out hx h128 HC2.out
      rw [← hq] at hm
      have HM := hH hm
      have HB3 := hH (HB.out.trans HB2.out)
      clear hm hq HN HNO HC2
      go_wp2_with fail
      go_roundw
      case rel => exact ⟨j + 1, n + q, p * 128, a2, bad2, rfl, by go_num, by go_num, by omega, HP2, by omega, by omega, HS2, HB3, HM⟩
      case measure => simp [intOf]; omega
  · have hj6 : j = 5 := by omega
    have hpp : p = 34359738368 := by rw [HP.out, hj6]
    subst hj6
    have HOV := hH (fun m rest h0 hm hd => NumOk.over HNO.out hpp m rest h0 hm hd)
    clear HNO HP
    by_cases hn1 : ng = 1
    · subst hn1
      go_wp2_with fail
      go_ret
      refine ⟨_, a', bad', rfl, ⟨by omega, by omega⟩, HS.out, HB.out, fun hb y rest hy hd => ?_⟩
      obtain ⟨g1, g2, g3⟩ := HFIN.out hb y rest hy hd
      exact (uh HOV _ rest g1 (by omega) g2).elim
    · have hn1b : ((ng : Int) == 1) = false := by simp; omega
      go_wp2_with fail
      go_ret
      refine ⟨_, a', bad', rfl, ⟨by omega, by omega⟩, HS.out, HB.out, fun hb y rest hy hd => ?_⟩
      obtain ⟨g1, g2, g3⟩ := HFIN.out hb y rest hy hd
      exact (uh HOV _ rest g1 (by omega) g2).elim

def STEnd (R : Nat) (w w' : World) (v : Value) (b : List UInt8) (a : Nat) (bad : Bool) (deep : Int) (e : Ending) : Prop :=
 ∃ (t : Tr) (c : C5) (F : List Nat) (a' : Nat) (bad' : Bool), e = .returned (.agg #[c.c0, c.c1, c.c2, c.c3, c.c4]) ∧ Own w' t c F ∧ F.Nodup ∧ (∀ x, x ∈ F → w.heap.size ≤ x ∧ x < w'.heap.size) ∧ SR R w' v b a' bad' ∧ But R w w' ∧
   (bad = false → ∀ t0 rest, 0 < pT t0 deep → b.drop a = treeB t0 ++ rest → t = t0 ∧ bad' = false ∧ b.drop a' = rest)
structure SAt (R Y : Nat) (w wr : World) (v : Value) (b : List UInt8) (s : Int) (a' : Nat) (bad' : Bool) (vN vK : Value) (ns : List ByteArray) (ks : List Tr) (xs : List Value) (G : List Nat) : Prop where
 sr : SR R wr v b a' bad'
 inv : SInv (Y + 1) Y wr s vN vK ns ks xs G
 but : But2 R Y w wr
 low : w.heap.size = Y + 1
 RY : R < Y
 short : ∀ x, x ∈ ns → x.size ≤ 255
theorem SAt.drew {R Y : Nat} {w wr : World} {v : Value} {b : List UInt8} {s : Int} {a' : Nat} {bad' : Bool} {vN vK : Value} {ns : List ByteArray} {ks : List Tr} {xs : List Value} {G : List Nat} (h : SAt R Y w wr v b s a' bad' vN vK ns ks xs G) : SAt R Y w wr.drew v b s a' bad' vN vK ns ks xs G :=
 ⟨h.sr.on (Below.refl _ wr).drew, h.inv.kept ⟨rfl, rfl, rfl, Nat.le_refl _, fun _ _ _ => rfl⟩, h.but.trans (But2.ofR (But.of_below (Below.refl _ wr).drew)), h.low, h.RY, h.short⟩
theorem SAt.alloc {R Y : Nat} {w wr : World} {v : Value} {b : List UInt8} {s : Int} {a' : Nat} {bad' : Bool} {vN vK : Value} {ns : List ByteArray} {ks : List Tr} {xs : List Value} {G : List Nat} (h : SAt R Y w wr v b s a' bad' vN vK ns ks xs G) (o : Obj) : SAt R Y w (wr.alloc o) v b s a' bad' vN vK ns ks xs G :=
 ⟨h.sr.on ((Below.refl _ wr).alloc (Nat.le_refl _) o), h.inv.kept (World.grownBy_alloc wr o none), h.but.trans (But2.ofR (But.alloc R wr o)), h.low, h.RY, h.short⟩
theorem SAt.read {R Y : Nat} {w wr w' : World} {v : Value} {b : List UInt8} {s : Int} {a' a2 : Nat} {bad' bad2 : Bool} {vN vK : Value} {ns : List ByteArray} {ks : List Tr} {xs : List Value} {G : List Nat} (h : SAt R Y w wr v b s a' bad' vN vK ns ks xs G) (hb : But R wr w') (hc : SR R w' v b a2 bad2) : SAt R Y w w' v b s a2 bad2 vN vK ns ks xs G :=
 ⟨hc, h.inv.but hb (by have := h.RY; omega) (by have := h.RY; omega), h.but.trans (But2.ofR hb), h.low, h.RY, h.short⟩
theorem SAt.rest {R Y : Nat} {w W w6 : World} {v : Value} {b : List UInt8} {s : Int} {a' : Nat} {bad' : Bool} {vN vK : Value} {ns : List ByteArray} {ks : List Tr} {xs : List Value} {G : List Nat} {row : Option Nat} (h : SAt R Y w W v b s a' bad' vN vK ns ks xs G) (hgrow : W.grownBy w6 row) (hrow : ∀ x, row = some x → Y + 1 ≤ x) (o : Nat) (u : Value) :
 SR R (w6.setCell ⟨Y, o, none⟩ u) v b a' bad' ∧ But2 R Y w (w6.setCell ⟨Y, o, none⟩ u) := by
 have hlow := h.low
 have hRY := h.RY
 have hsz2 := h.but.size
 have hset : w6.grownBy (w6.setCell ⟨Y, o, none⟩ u) (some Y) := But.set _ _ _
 refine ⟨⟨?_, ?_, h.sr.own, h.sr.le, h.sr.small⟩, ?_⟩
 · refine (h.sr.cells.of_block (hgrow.block R h.sr.cells.lt (fun e => by have := hrow R e.symm; omega))).of_block (hset.block R ?_ (by simp; omega))
   exact Nat.lt_of_lt_of_le h.sr.cells.lt hgrow.size
 · refine (h.sr.row.of_block (fun x e => hgrow.block x (h.sr.row.own x e).2 (fun e2 => by have := hrow x e2.symm; have := h.sr.own x e; omega))).of_block (fun x e => hset.block x (Nat.lt_of_lt_of_le (h.sr.row.own x e).2 hgrow.size) (by have := h.sr.own x e; simp; omega))
 · refine ⟨hset.os.trans (hgrow.os.trans h.but.os), hset.tape.trans (hgrow.tape.trans h.but.tape), hset.output.trans (hgrow.output.trans h.but.output), Nat.le_trans h.but.size (Nat.le_trans hgrow.size hset.size), fun x hx h1 h2 => ?_⟩
   have hxW : x < W.heap.size := by omega
   exact (hset.block x (Nat.lt_of_lt_of_le hxW hgrow.size) (by simp; omega)).trans ((hgrow.block x hxW (fun e => by have := hrow x e.symm; omega)).trans (h.but.block x hx h1 h2))
theorem SAt.name {R Y : Nat} {w W w6 : World} {v : Value} {b : List UInt8} {s : Int} {a' : Nat} {bad' : Bool} {vN vK v' : Value} {ns : List ByteArray} {ks : List Tr} {xs : List Value} {G : List Nat} {nm : ByteArray} (h : SAt R Y w W v b s a' bad' vN vK ns ks xs G) (hsz : nm.size ≤ 255)
 (hown : w6.ownsRow (Y + 1) 9 1 v' (ns.length + 1) (ns.map Value.string ++ [.string nm])) (hgrow : W.grownBy w6 vN.ownBlock) (hat : v'.ownBlock = vN.ownBlock ∨ ∃ g, v'.ownBlock = some g ∧ W.heap.size ≤ g) :
 SAt R Y w (w6.setCell ⟨Y, 3, none⟩ v') v b s a' bad' v' vK (ns ++ [nm]) ks xs G := by
 obtain ⟨h1, h2⟩ := h.rest hgrow (fun x e => (h.inv.names.lt x e).1) 3 v'
 refine ⟨h1, SInv.name h.inv hown hgrow hat, h2, h.low, h.RY, fun x hx => ?_⟩
 rcases List.mem_append.1 hx with hx | hx
 · exact h.short x hx
 · simp at hx; rw [hx]; exact hsz
theorem SAt.kid {R Y m : Nat} {w W w8 : World} {v : Value} {b : List UInt8} {s : Int} {a' : Nat} {bad' : Bool} {vN vK v' : Value} {ns : List ByteArray} {ks : List Tr} {xs : List Value} {G F : List Nat} {t : Tr} {c : C5} (h : SAt R Y w W v b s a' bad' vN vK ns ks xs G)
 (ht : Own W t c F) (hnd : F.Nodup) (hF : ∀ x, x ∈ F → m ≤ x ∧ x < W.heap.size) (hGm : ∀ x, x ∈ G → x < m) (hvm : ∀ x, vK.ownBlock = some x → x < m) (hnm : ∀ x, vN.ownBlock = some x → x < m) (hbm : Y + 1 ≤ m)
 (hown : w8.ownsRow (Y + 1) 26 5 v' (ks.length + 1) (xs ++ c5l c)) (hgrow : W.grownBy w8 vK.ownBlock) (hat : v'.ownBlock = vK.ownBlock ∨ ∃ g, v'.ownBlock = some g ∧ W.heap.size ≤ g) :
 SAt R Y w (w8.setCell ⟨Y, 4, none⟩ v') v b s a' bad' vN v' ns (ks ++ [t]) (xs ++ c5l c) (G ++ F) := by
 obtain ⟨h1, h2⟩ := h.rest hgrow (fun x e => (h.inv.got.row.lt x e).1) 4 v'
 exact ⟨h1, SInv.kid h.inv ht hnd hF hGm hvm hnm hbm hown hgrow hat, h2, h.low, h.RY, h.short⟩
def KidsOk (b : List UInt8) (a0 : Nat) (bad0 : Bool) (s deep : Int) (n0 : Nat) (a' : Nat) (bad' : Bool) (k : Nat) (ns : List ByteArray) (ks : List Tr) : Prop :=
 bad0 = false → ∀ t0 rest, 0 < pT t0 deep → t0.sort = s → t0.kids.length = n0 → b.drop a0 = kidsB (decide (s = 5)) t0.names t0.kids ++ rest →
  bad' = false ∧ ns = t0.names.take k ∧ ks = t0.kids.take k ∧ b.drop a' = kidsB (decide (s = 5)) (t0.names.drop k) (t0.kids.drop k) ++ rest
theorem kidsB_drop {form : Bool} {ns : List ByteArray} {ks : List Tr} {k : Nat} (hk : k < ks.length) : kidsB form (ns.drop k) (ks.drop k) = (if form then shortB (ns.getD k ByteArray.empty) else []) ++ (treeB ks[k] ++ kidsB form (ns.drop (k + 1)) (ks.drop (k + 1))) := by
 rw [List.drop_eq_getElem_cons hk, kidsB]
 have h1 : (ns.drop k).headD ByteArray.empty = ns.getD k ByteArray.empty := by
  by_cases h : k < ns.length
  · rw [List.drop_eq_getElem_cons h]; simp [h]
  · rw [List.drop_eq_nil_of_le (by omega)]; simp; rw [List.getElem?_eq_none (by omega)]; rfl
 rw [h1, List.tail_drop]
end Go.Proofs.YtbkagahmiibclaaGreatDoor
