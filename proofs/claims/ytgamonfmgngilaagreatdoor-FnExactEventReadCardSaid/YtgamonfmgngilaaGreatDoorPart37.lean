/- The walk of the specification's EventRead. For texts of at most 2^20 bytes. -/
import Derived.Test.YtgamonfmgngilaaGreatDoorPart29
import Derived.Test.YtgamonfmgngilaaGreatDoorPart35
import Derived.Test.YtgamonfmgngilaaGreatDoorPart36
import Derived.Test.YtgamonfmgngilaaGreatDoorPart09
namespace Go.Proofs.YtgamonfmgngilaaGreatDoor
open Go Go.RowKit

/-- num, whatever the reader is: what it reads, if it can. -/
theorem num_gen (w : World) (R : Nat) (s : ByteArray) (at' : Nat) (bad : Bool) (hs : s.size ≤ 1048576) (h : Rdr w R s at' bad) (ha : at' ≤ s.size) :
    Calls Tryz.prog 38 #[.pointer (some ⟨R, 0, none⟩)] w fun e w' => ∃ (n : Int) (a2 : Nat) (bad2 : Bool), e = .returned (.int .i64 n) ∧ I64 n ∧ a2 ≤ s.size ∧ Rdr w' R s a2 bad2 ∧ But R w w' ∧
      (bad = false → ∀ m rest, spNum (lf s at') = some (m, rest) → n = m ∧ bad2 = false ∧ lf s a2 = rest) := by
  cases bad with
  | false =>
    refine (num_any w R s at' hs h ha).mono ?_
    rintro e w' ⟨n, a2, bad2, h1, h2, h3, h4, h5, h6, -⟩
    exact ⟨n, a2, bad2, h1, h2, h3, h4, h5, fun _ => h6⟩
  | true =>
    refine (num_anyB w R s at' hs h ha).mono ?_
    rintro e w' ⟨n, a2, h1, h2, h3, h4, h5⟩
    exact ⟨n, a2, true, h1, h2, h3, h4, h5, fun h => by cases h⟩

/-- What the walk's worlds hold: the box of the answer, the reader, the box of the event. -/
structure XB (w : World) (s : ByteArray) (a : Nat) (bad : Bool) (Y : Nat) (f : Nat → Value) (W : World) : Prop where
  below : Below w.heap.size w W
  ans : W.rowIs w.heap.size 37 7 (row7 (.string ⟨#[]⟩) (.int .i64 0) (.int .i64 0) (.int .i64 0) (.string ⟨#[]⟩) (.slice none 0 0) (.slice none 0 0))
  rd : Rdr W (w.heap.size + 1) s a bad
  ev : W.rowIs Y 37 7 f
  hY : w.heap.size + 1 < Y
section
variable {w W W' : World} {s : ByteArray} {a a' : Nat} {bad bad' : Bool} {Y : Nat} {f : Nat → Value}
theorem bl_but {R : Nat} (h : Below w.heap.size w W) (hb : But R W W') (hR : w.heap.size ≤ R) : Below w.heap.size w W' :=
  h.trans ⟨hb.os, hb.tape, hb.output, hb.size, fun i hi => hb.at (by have := h.size; omega) (by omega)⟩
theorem XB.next (h : XB w s a bad Y f W) (hb : But (w.heap.size + 1) W W') (hr : Rdr W' (w.heap.size + 1) s a' bad') : XB w s a' bad' Y f W' := by
  have := h.hY
  exact ⟨bl_but h.below hb (by omega), h.ans.of_block (hb.at h.ans.lt (by omega)), hr, h.ev.of_block (hb.at h.ev.lt (by omega)), h.hY⟩
theorem XB.on (h : XB w s a bad Y f W) (hb : Below W.heap.size W W') : XB w s a bad Y f W' :=
  ⟨h.below.trans (hb.mono h.below.size), h.ans.of_block (hb.block _ h.ans.lt), h.rd.below hb, h.ev.of_block (hb.block _ h.ev.lt), h.hY⟩
theorem XB.set (h : XB w s a bad Y f W) (j : Nat) (v : Value) : XB w s a bad Y (fun i => if i = j then v else f i) (W.setCell ⟨Y, j, none⟩ v) := by
  have := h.hY
  exact ⟨h.below.setCell (by simp; omega) _, h.ans.setOther (by simp; omega) _, World.rowIs.of_block h.rd (Below.heap_setCell _ _ _ _ (by simp; omega)), h.ev.set j v, h.hY⟩
end

/-- How the specification's EventRead ends. -/
def SrEnd (w w' : World) (s : ByteArray) (e : Ending) : Prop :=
  Below w.heap.size w w' ∧ ((∃ (ty : ByteArray) (ver : Int) (t : Tr) (c : C5), e = .returned (.tuple #[.agg #[.string ty, .int .i64 ver, c.c0, c.c1, c.c2, c.c3, c.c4], .bool true]) ∧ Rep (New w w') w' t c ∧ EvR s.data.toList ty ver t)
    ∨ (e = .returned (.tuple #[.agg #[.string ⟨#[]⟩, .int .i64 0, .int .i64 0, .int .i64 0, .string ⟨#[]⟩, .slice none 0 0, .slice none 0 0], .bool false]) ∧ ∀ ty ver t, ¬ EvR s.data.toList ty ver t))

/-- What the specification's reader meets in the text of an event. -/
theorem ev_sp {s ty : ByteArray} {v : Int} {t : Tr} (h : EvR s.data.toList ty v t) :
    s.size ≤ 10000 ∧ (⟨((lf s 0).takeWhile nameByte).toArray⟩ : ByteArray) = ty ∧ pre ⟨#[64]⟩ s (rn nameByte s 0) = true ∧ spNum (lf s (rn nameByte s 0 + 1)) = some (v, txT t) ∧ spT 6 (txT t) () = some (t, [], ()) ∧ s.size ≠ 0 := by
  have h0 := (ev_all h).1
  obtain ⟨h1, h2⟩ := h
  obtain ⟨a1, a2, a3, a4, a5, a6, a7⟩ := ev_parts h1 h2
  have hl0 : lf s 0 = s.data.toList := by unfold lf; simp
  have hsz : s.data.toList.length = s.size := rfl
  have hty : ty.data.toList.length = ty.size := rfl
  have hrn : rn nameByte s 0 = ty.size := by unfold rn; rw [hl0, a1]; exact hty
  have hl : lf s ty.size = 64 :: (Lib.itoa v ++ txT t) := a3
  refine ⟨h0, ?_, ?_, ?_, a7, ?_⟩
  · rw [hl0, a1]
  · rw [hrn, show (⟨#[64]⟩ : ByteArray) = w1 64 from rfl, pre_one, hl]; rfl
  · rw [hrn, lf_next, hl]; exact a5
  · rw [← hsz, ← h2]; unfold evT; simp
set_option maxRecDepth 100000 in
set_option maxHeartbeats 6400000 in
theorem specEventRead_any (w : World) (s : ByteArray) (hs : s.size ≤ 1048576) :
    Calls Tryz.prog 16 #[.string s] w fun e w' => SrEnd w w' s e := by
  by_cases h8 : 10000 < s.size
  · have hd : decide ((10000 : Int) < (s.size : Int)) = true := by simp; omega
    go_enter Tryz.func16, Tryz.ntmps16
    go_wp2_with fail
    refine bodyPost_ret (v := .tuple #[.agg #[.string ⟨#[]⟩, .int .i64 0, .int .i64 0, .int .i64 0, .string ⟨#[]⟩, .slice none 0 0, .slice none 0 0], .bool false]) (by simp [results, Tryz.results16, go_sem] <;> rfl) rfl ?_
    refine ⟨?_, Or.inr ⟨rfl, fun ty ver t h => by have := (ev_sp h).1; omega⟩⟩
    exact (Below.refl _ _).alloc (Nat.le_refl _) _
  · have hd : decide ((10000 : Int) < (s.size : Int)) = false := by simp; omega
    obtain ⟨W1, hW1⟩ : ∃ W1, (w.alloc (.cells #[.string ⟨#[]⟩, .int .i64 0, .int .i64 0, .int .i64 0, .string ⟨#[]⟩, .slice none 0 0, .slice none 0 0] 37)).alloc (.cells #[.string s, .int .i64 0, .bool false] 63) = W1 := ⟨_, rfl⟩
    have hrd : Rdr W1 (w.heap.size + 1) s 0 false := by
      rw [← hW1]
      have q := row3_alloc (w.alloc (.cells #[.string ⟨#[]⟩, .int .i64 0, .int .i64 0, .int .i64 0, .string ⟨#[]⟩, .slice none 0 0, .slice none 0 0] 37)) (.string s) (.int .i64 (0 : Nat)) (.bool false) 63
      rw [World.size_alloc] at q
      exact q
    have hb1 : Below w.heap.size w W1 := by rw [← hW1]; exact ((Below.refl _ w).alloc (Nat.le_refl _) _).alloc (by simp) _
    have hs1 : W1.heap.size = w.heap.size + 2 := by rw [← hW1]; simp
    have hans : W1.rowIs w.heap.size 37 7 (row7 (.string ⟨#[]⟩) (.int .i64 0) (.int .i64 0) (.int .i64 0) (.string ⟨#[]⟩) (.slice none 0 0) (.slice none 0 0)) := by rw [← hW1]; exact (row7_alloc w _ _ _ _ _ _ _ _).alloc _
    have hnm := name_any W1 (w.heap.size + 1) s 0 false hs hrd (Nat.zero_le _)
    rw [Nat.zero_add] at hnm
    have hrl := rn_le nameByte s 0 (Nat.zero_le _)
    rw [Nat.zero_add] at hrl
    have HSP := hide (fun ty v t (h : EvR s.data.toList ty v t) => ev_sp h)
    have hnsz : (⟨((lf s 0).takeWhile nameByte).toArray⟩ : ByteArray).size ≤ 9223372036854775807 := by
      have h1 : (⟨((lf s 0).takeWhile nameByte).toArray⟩ : ByteArray).size = rn nameByte s 0 := by unfold rn; simp [ByteArray.size]
      rw [h1]; omega
    generalize rn nameByte s 0 = a at *
    generalize (⟨((lf s 0).takeWhile nameByte).toArray⟩ : ByteArray) = n0 at *
    have HNM := hide hnm; have HB1 := hide hb1; have HANS := hide hans
    clear hnm hb1 hans hrd
    go_enter Tryz.func16, Tryz.ntmps16
    go_wp2_with (go_at_call 36
                 refine (unhide HNM).mono ?_
                 rintro e w2 ⟨rfl, hr2, hb2⟩
                 have hs2 := hb2.size
                 have hx : XB w s a false w2.heap.size (row7 (.string n0) (.int .i64 0) (.int .i64 0) (.int .i64 0) (.string ⟨#[]⟩) (.slice none 0 0) (.slice none 0 0)) (w2.alloc (.cells #[.string n0, .int .i64 0, .int .i64 0, .int .i64 0, .string ⟨#[]⟩, .slice none 0 0, .slice none 0 0] 37)) := by
                   have hba := (Below.refl w2.heap.size w2).alloc (Nat.le_refl _) (.cells #[.string n0, .int .i64 0, .int .i64 0, .int .i64 0, .string ⟨#[]⟩, .slice none 0 0, .slice none 0 0] 37)
                   exact ⟨(bl_but (unhide HB1) hb2 (by omega)).trans (hba.mono (by omega)), ((unhide HANS).of_block (hb2.at (by omega) (by omega))).alloc _, hr2.below hba, row7_alloc w2 _ _ _ _ _ _ _ _, by omega⟩
                 have HX := hide hx
                 clear hx hr2 hb2 HNM HB1 HANS)
    generalize w2.alloc (.cells #[.string n0, .int .i64 0, .int .i64 0, .int .i64 0, .string ⟨#[]⟩, .slice none 0 0, .slice none 0 0] 37) = W3 at *
    have HEA := hide (eat_any W3 (w.heap.size + 1) s ⟨#[64]⟩ a false hs (unhide HX).rd (by omega) (by decide) (by decide))
    refine (unhide HEA).mono ?_
    rintro e w4 ⟨rfl, a2, bad2, hr4, hb4, hle4, -, hyes4, -⟩
    have hx4 := (unhide HX).next hb4 hr4
    have hn := num_gen w4 (w.heap.size + 1) s a2 bad2 hs hr4 (hle4 hrl)
    have HN := hide hn; have HX4 := hide hx4; have HY4 := hide hyes4
    clear hn hx4 hyes4 hr4 hb4 HEA HX
    go_wp2_with fail
    refine (unhide HN).mono ?_
    rintro e w5 ⟨n, a3, bad3, rfl, hn64, ha3, hr5, hb5, hyes5⟩
    have hx5 := (unhide HX4).next hb5 hr5
    have p1 : w5.cell? ⟨w2.heap.size, 1, none⟩ = some (.int .i64 0) := hx5.ev.cell (i := 1) (by omega)
    have pf := hx5.ev.frozen 1
    have hx6 := hx5.set 1 (.int .i64 n)
    obtain ⟨W6, hW6⟩ : ∃ W6, w5.setCell ⟨w2.heap.size, 1, none⟩ (.int .i64 n) = W6 := ⟨_, rfl⟩
    rw [hW6] at hx6
    have hsub := spTree_all 6 (Nat.le_refl _) W6 (w.heap.size + 1) s a3 bad3 hs hx6.rd ha3
    rw [show (7 : Int) - ((6 : Nat) : Int) = 1 from by omega] at hsub
    have HSUB := hide hsub; have HX6 := hide hx6; have HY5 := hide hyes5
    have hs6 := hx6.below.size
    have hY6 := hx6.ev.lt
    clear hsub hx6 hx5 hyes5 hr5 hb5 HN HX4
    go_wp2_with fail
    refine (unhide HSUB).mono ?_
    rintro e w7 ⟨t, ⟨d0, d1, d2, d3, d4⟩, a4, bad4, rfl, hrep, hr7, hb7, -, hyes7, hno7⟩
    obtain ⟨e0, e1, e2, -, -, -, ⟨ap, cp, e3, -⟩, aq, cq, e4, -⟩ := hrep.open
    simp only at e0 e1 e2 e3 e4
    subst e0 e1 e2 e3 e4
    have hall : ∀ ty' v' t', EvR s.data.toList ty' v' t' → bad4 = false ∧ a4 = s.size := fun ty' v' t' h => by
      obtain ⟨-, -, g3, g4, g5, -⟩ := unhide HSP ty' v' t' h
      obtain ⟨rfl, rfl⟩ := unhide HY4 g3
      obtain ⟨-, rfl, k3⟩ := unhide HY5 rfl _ _ g4
      rw [k3] at hyes7 hno7
      cases bad4 with
      | true => rcases hno7 rfl with h | h
                · cases h
                · rw [g5] at h; cases h
      | false =>
        obtain ⟨m1, -, m3⟩ := hyes7 rfl
        rw [g5] at m3
        simp only [Option.some.injEq, Prod.mk.injEq] at m3
        have := lf_len s a4
        rw [← m3.2.1] at this
        simp at this
        exact ⟨rfl, by omega⟩
    have hall2 : ∀ ty' v' t', EvR s.data.toList ty' v' t' → n0 = ty' ∧ n = v' ∧ t = t' := fun ty' v' t' h => by
      have hbf := (hall ty' v' t' h).1
      obtain ⟨-, g2, g3, g4, g5, -⟩ := unhide HSP ty' v' t' h
      obtain ⟨rfl, rfl⟩ := unhide HY4 g3
      obtain ⟨k1, rfl, k3⟩ := unhide HY5 rfl _ _ g4
      rw [k3] at hyes7
      obtain ⟨m1, -, m3⟩ := hyes7 hbf
      rw [g5] at m3
      simp only [Option.some.injEq, Prod.mk.injEq] at m3
      exact ⟨g2, k1, m3.1.symm⟩
    have hx7 := (unhide HX6).next hb7 hr7
    have hs7 := hb7.size
    have q2 : w7.cell? ⟨w2.heap.size, 2, none⟩ = some (.int .i64 0) := by have := hx7.ev.cell (i := 2) (by omega); simpa [row7] using this
    have q3 : w7.cell? ⟨w2.heap.size, 3, none⟩ = some (.int .i64 0) := by have := hx7.ev.cell (i := 3) (by omega); simpa [row7] using this
    have q4 : w7.cell? ⟨w2.heap.size, 4, none⟩ = some (.string ⟨#[]⟩) := by have := hx7.ev.cell (i := 4) (by omega); simpa [row7] using this
    have q5 : w7.cell? ⟨w2.heap.size, 5, none⟩ = some (.slice none 0 0) := by have := hx7.ev.cell (i := 5) (by omega); simpa [row7] using this
    have q6 : w7.cell? ⟨w2.heap.size, 6, none⟩ = some (.slice none 0 0) := by have := hx7.ev.cell (i := 6) (by omega); simpa [row7] using this
    have qf := hx7.ev.frozen
    have hx8 := ((((hx7.set 2 (.int .i64 t.sort)).set 3 (.int .i64 t.num)).set 4 (.string t.text)).set 5 (.slice ap t.names.length cp)).set 6 (.slice aq t.kids.length cq)
    have hrep8 : Rep (fun b => W6.heap.size ≤ b ∧ b < w7.heap.size) (((((w7.setCell ⟨w2.heap.size, 2, none⟩ (.int .i64 t.sort)).setCell ⟨w2.heap.size, 3, none⟩ (.int .i64 t.num)).setCell ⟨w2.heap.size, 4, none⟩ (.string t.text)).setCell ⟨w2.heap.size, 5, none⟩ (.slice ap t.names.length cp)).setCell ⟨w2.heap.size, 6, none⟩ (.slice aq t.kids.length cq)) t ⟨.int .i64 t.sort, .int .i64 t.num, .string t.text, .slice ap t.names.length cp, .slice aq t.kids.length cq⟩ := Rep.carry (fun b hb => by have h1 : W6.heap.size ≤ b := hb.1; repeat rw [Below.heap_setCell _ _ _ _ (by simp <;> omega)]) (fun b hb => hb) _ _ hrep
    have hs8 : (((((w7.setCell ⟨w2.heap.size, 2, none⟩ (.int .i64 t.sort)).setCell ⟨w2.heap.size, 3, none⟩ (.int .i64 t.num)).setCell ⟨w2.heap.size, 4, none⟩ (.string t.text)).setCell ⟨w2.heap.size, 5, none⟩ (.slice ap t.names.length cp)).setCell ⟨w2.heap.size, 6, none⟩ (.slice aq t.kids.length cq)).heap.size = w7.heap.size := by simp
    obtain ⟨W8, hW8⟩ : ∃ W8, (((((w7.setCell ⟨w2.heap.size, 2, none⟩ (.int .i64 t.sort)).setCell ⟨w2.heap.size, 3, none⟩ (.int .i64 t.num)).setCell ⟨w2.heap.size, 4, none⟩ (.string t.text)).setCell ⟨w2.heap.size, 5, none⟩ (.slice ap t.names.length cp)).setCell ⟨w2.heap.size, 6, none⟩ (.slice aq t.kids.length cq)) = W8 := ⟨_, rfl⟩
    rw [hW8] at hx8 hrep8 hs8
    obtain ⟨c0, c1, c2, -, -⟩ := hx8.rd.cells
    have r0 : W8.cell? ⟨w2.heap.size, 0, none⟩ = some (.string n0) := by have := hx8.ev.cell (i := 0) (by omega); simpa [row7] using this
    have r1 : W8.cell? ⟨w2.heap.size, 1, none⟩ = some (.int .i64 n) := by have := hx8.ev.cell (i := 1) (by omega); simpa [row7] using this
    have r2 : W8.cell? ⟨w2.heap.size, 2, none⟩ = some (.int .i64 t.sort) := by have := hx8.ev.cell (i := 2) (by omega); simpa using this
    have r3 : W8.cell? ⟨w2.heap.size, 3, none⟩ = some (.int .i64 t.num) := by have := hx8.ev.cell (i := 3) (by omega); simpa using this
    have r4 : W8.cell? ⟨w2.heap.size, 4, none⟩ = some (.string t.text) := by have := hx8.ev.cell (i := 4) (by omega); simpa using this
    have r5 : W8.cell? ⟨w2.heap.size, 5, none⟩ = some (.slice ap t.names.length cp) := by have := hx8.ev.cell (i := 5) (by omega); simpa using this
    have r6 : W8.cell? ⟨w2.heap.size, 6, none⟩ = some (.slice aq t.kids.length cq) := by have := hx8.ev.cell (i := 6) (by omega); simpa using this
    have HX8 := hide hx8; have HR8 := hide hrep8; have HALL := hide hall; have HALL2 := hide hall2
    clear hx7 hx8 hrep8 hall hall2 hrep hr7 hb7 hyes7 hno7 HSUB HX6 HY4 HY5 HSP
    by_cases hgo : bad4 = false ∧ a4 = s.size
    · obtain ⟨rfl, rfl⟩ := hgo
      have hew := specEventWrite_any n0 n t (fun b => W6.heap.size ≤ b ∧ b < w7.heap.size) ⟨.int .i64 t.sort, .int .i64 t.num, .string t.text, .slice ap t.names.length cp, .slice aq t.kids.length cq⟩ W8 (fun b hb => by have := hb.2; omega) (unhide HR8) hnsz hn64
      have HEW := hide hew
      clear hew
      go_wp2_with fail
      refine (unhide HEW).mono ?_
      rintro e w9 ⟨rfl, hb9⟩
      have hx9 := (unhide HX8).on hb9
      have hs9 := hb9.size
      have hrep9 := Rep.carry (w' := w9) (fun b hb => hb9.block b (by have h1 : b < w7.heap.size := hb.2; omega)) (fun b hb => hb) _ _ (unhide HR8)
      have a0 := hx9.ans.cell (i := 0) (by omega); have a1 := hx9.ans.cell (i := 1) (by omega); have a2' := hx9.ans.cell (i := 2) (by omega); have a3' := hx9.ans.cell (i := 3) (by omega); have a4 := hx9.ans.cell (i := 4) (by omega); have a5 := hx9.ans.cell (i := 5) (by omega); have a6 := hx9.ans.cell (i := 6) (by omega)
      have af := hx9.ans.frozen
      simp only [row7] at a0 a1 a2' a3' a4 a5 a6
      have HB9 := hide hx9.below
      have k0 : w9.cell? ⟨w2.heap.size, 0, none⟩ = some (.string n0) := by have := hx9.ev.cell (i := 0) (by omega); simpa [row7] using this
      have k1 : w9.cell? ⟨w2.heap.size, 1, none⟩ = some (.int .i64 n) := by have := hx9.ev.cell (i := 1) (by omega); simpa [row7] using this
      have k2 : w9.cell? ⟨w2.heap.size, 2, none⟩ = some (.int .i64 t.sort) := by have := hx9.ev.cell (i := 2) (by omega); simpa using this
      have k3 : w9.cell? ⟨w2.heap.size, 3, none⟩ = some (.int .i64 t.num) := by have := hx9.ev.cell (i := 3) (by omega); simpa using this
      have k4 : w9.cell? ⟨w2.heap.size, 4, none⟩ = some (.string t.text) := by have := hx9.ev.cell (i := 4) (by omega); simpa using this
      have k5 : w9.cell? ⟨w2.heap.size, 5, none⟩ = some (.slice ap t.names.length cp) := by have := hx9.ev.cell (i := 5) (by omega); simpa using this
      have k6 : w9.cell? ⟨w2.heap.size, 6, none⟩ = some (.slice aq t.kids.length cq) := by have := hx9.ev.cell (i := 6) (by omega); simpa using this
      have HREP := hide hrep9
      clear hx9 hb9 hrep9 HEW HX8 HR8 r0 r1 r2 r3 r4 r5 r6 q2 q3 q4 q5 q6 qf hW8 c0 c1 c2
      have hstl := str_beq [] s
      have hstl2 : (s.toList == []) = ([] == s.toList) := Bool.beq_comm
      by_cases hok : evOkB n0 n t = true ∧ evT n0 n t = s.data.toList
      · have hu : EvR s.data.toList n0 n t := hok
        have hev : evW n0 n t = s := by unfold evW; rw [if_pos hok.1, hok.2]
        have hne := (ev_sp hu).2.2.2.2.2
        have hnl : ¬ ([] : List UInt8) = s.data.toList := fun e => hne (by have := congrArg List.length e; simpa using this.symm)
        rw [decide_eq_false hnl] at hstl
        rw [hstl] at hstl2
        have hempty : s.toList.isEmpty = false := by
          cases hx : s.toList with
          | nil => rw [hx] at hstl; simp at hstl
          | cons a b => rfl
        have hemp2 : ¬ s.toList = [] := fun e => by rw [e] at hempty; simp at hempty
        rw [hev]
        have HU := hide hu
        clear hok hu hev hne hnl HALL HALL2
        go_wp2_with fail
        refine bodyPost_ret (v := .tuple #[.agg #[.string n0, .int .i64 n, .int .i64 t.sort, .int .i64 t.num, .string t.text, .slice ap t.names.length cp, .slice aq t.kids.length cq], .bool true]) (by simp [results, Tryz.results16, go_sem, a0, a1, a2', a3', a4, a5, a6]) rfl ?_
        refine ⟨?_, Or.inl ⟨n0, n, t, ⟨_, _, _, _, _⟩, rfl, Rep.carry (fun b hb => by have h1 : W6.heap.size ≤ b := hb.1; repeat rw [Below.heap_setCell _ _ _ _ (by simp <;> omega)]) (fun b hb => ⟨by have h1 : W6.heap.size ≤ b := hb.1; omega, by have h2 : b < w7.heap.size := hb.2; simp only [World.size_setCell]; omega⟩) _ _ (unhide HREP), unhide HU⟩⟩
        repeat refine Below.setCell ?_ (by simp <;> omega) _
        exact unhide HB9
      · have HNO := hide (show ∀ ty ver t', ¬ EvR s.data.toList ty ver t' from fun ty ver t' h => by
          obtain ⟨rfl, rfl, rfl⟩ := unhide HALL2 ty ver t' h
          exact hok h)
        clear HALL HALL2
        cases hb : evOkB n0 n t with
        | true =>
          have hev : evW n0 n t = ⟨(evT n0 n t).toArray⟩ := by unfold evW; rw [if_pos hb]
          have hbe := str_beq (evT n0 n t) s
          rw [decide_eq_false (fun e => hok ⟨hb, e⟩)] at hbe
          rw [hev]
          clear hok hev hstl hstl2
          generalize evT n0 n t = X at *
          go_wp2_with fail
          refine bodyPost_ret (v := .tuple #[.agg #[.string ⟨#[]⟩, .int .i64 0, .int .i64 0, .int .i64 0, .string ⟨#[]⟩, .slice none 0 0, .slice none 0 0], .bool false]) (by simp [results, Tryz.results16, go_sem, a0, a1, a2', a3', a4, a5, a6] <;> rfl) rfl ?_
          refine ⟨?_, Or.inr ⟨rfl, unhide HNO⟩⟩
          repeat refine Below.setCell ?_ (by simp <;> omega) _
          exact unhide HB9
        | false =>
          have hev : evW n0 n t = ⟨#[]⟩ := by unfold evW; rw [if_neg (by rw [hb]; decide)]
          rw [hev]
          clear hok hev hb
          by_cases hemp : ([] : List UInt8) = s.data.toList
          · have hs0 : s = ⟨#[]⟩ := by
              apply ByteArray.ext
              apply Array.toList_inj.1
              rw [← hemp]
            subst hs0
            clear hstl hstl2
            go_wp2_with fail
            refine bodyPost_ret (v := .tuple #[.agg #[.string ⟨#[]⟩, .int .i64 0, .int .i64 0, .int .i64 0, .string ⟨#[]⟩, .slice none 0 0, .slice none 0 0], .bool false]) (by simp [results, Tryz.results16, go_sem, a0, a1, a2', a3', a4, a5, a6] <;> rfl) rfl ?_
            refine ⟨?_, Or.inr ⟨rfl, unhide HNO⟩⟩
            repeat refine Below.setCell ?_ (by simp <;> omega) _
            exact unhide HB9
          · rw [decide_eq_false hemp] at hstl
            rw [hstl] at hstl2
            have hempty : s.toList.isEmpty = false := by
              cases hx : s.toList with
              | nil => rw [hx] at hstl; simp at hstl
              | cons a b => rfl
            have hemp2 : ¬ s.toList = [] := fun e => by rw [e] at hempty; simp at hempty
            have hemp3 : ¬ [] = s.toList := fun e => hemp2 e.symm
            clear hemp
            go_wp2_with fail
            refine bodyPost_ret (v := .tuple #[.agg #[.string ⟨#[]⟩, .int .i64 0, .int .i64 0, .int .i64 0, .string ⟨#[]⟩, .slice none 0 0, .slice none 0 0], .bool false]) (by simp [results, Tryz.results16, go_sem, a0, a1, a2', a3', a4, a5, a6] <;> rfl) rfl ?_
            refine ⟨?_, Or.inr ⟨rfl, unhide HNO⟩⟩
            repeat refine Below.setCell ?_ (by simp <;> omega) _
            exact unhide HB9
    · have HNO := hide (show ∀ ty ver t', ¬ EvR s.data.toList ty ver t' from fun ty ver t' h => hgo (unhide HALL ty ver t' h))
      have a0 := (unhide HX8).ans.cell (i := 0) (by omega); have a1 := (unhide HX8).ans.cell (i := 1) (by omega); have a2' := (unhide HX8).ans.cell (i := 2) (by omega); have a3' := (unhide HX8).ans.cell (i := 3) (by omega); have a4' := (unhide HX8).ans.cell (i := 4) (by omega); have a5 := (unhide HX8).ans.cell (i := 5) (by omega); have a6 := (unhide HX8).ans.cell (i := 6) (by omega)
      have af := (unhide HX8).ans.frozen
      simp only [row7] at a0 a1 a2' a3' a4' a5 a6
      have HB8 := hide (unhide HX8).below
      clear HALL HALL2 HX8 HR8
      cases bad4 with
      | true =>
        clear hgo
        go_wp2_with fail
        refine bodyPost_ret (v := .tuple #[.agg #[.string ⟨#[]⟩, .int .i64 0, .int .i64 0, .int .i64 0, .string ⟨#[]⟩, .slice none 0 0, .slice none 0 0], .bool false]) (by simp [results, Tryz.results16, go_sem, a0, a1, a2', a3', a4', a5, a6] <;> rfl) rfl ?_
        refine ⟨?_, Or.inr ⟨rfl, unhide HNO⟩⟩
        repeat refine Below.setCell ?_ (by simp <;> omega) _
        exact unhide HB8
      | false =>
        have hne : ¬ ((a4 : Int) = (s.size : Int)) := fun e => hgo ⟨rfl, by omega⟩
        clear hgo
        go_wp2_with fail
        refine bodyPost_ret (v := .tuple #[.agg #[.string ⟨#[]⟩, .int .i64 0, .int .i64 0, .int .i64 0, .string ⟨#[]⟩, .slice none 0 0, .slice none 0 0], .bool false]) (by simp [results, Tryz.results16, go_sem, a0, a1, a2', a3', a4', a5, a6] <;> rfl) rfl ?_
        refine ⟨?_, Or.inr ⟨rfl, unhide HNO⟩⟩
        repeat refine Below.setCell ?_ (by simp <;> omega) _
        exact unhide HB8
end Go.Proofs.YtgamonfmgngilaaGreatDoor
