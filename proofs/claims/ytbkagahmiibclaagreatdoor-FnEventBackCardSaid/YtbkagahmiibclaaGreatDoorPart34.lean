/- The walk of the program's reader of events: the whole. The tables of strconv and treeFields are as the program's text lays them; for texts of at most 2^20 bytes. -/
import Derived.Test.YtbkagahmiibclaaGreatDoorPart30
import Derived.Test.YtbkagahmiibclaaGreatDoorPart25
import Derived.Test.YtbkagahmiibclaaGreatDoorPart32
import Derived.Test.YtbkagahmiibclaaGreatDoorPart33
import Derived.Test.YtbkagahmiibclaaGreatDoorPart12
import Derived.Laws.EntriesVeiled
namespace Go.Proofs.YtbkagahmiibclaaGreatDoor
open Go Go.RowKit

/-- The cells of an event that is nothing. -/
def zE : Nat → Value := row7 (.string ⟨#[]⟩) (.int .i64 0) (.int .i64 0) (.int .i64 0) (.string ⟨#[]⟩) (.slice none 0 0) (.slice none 0 0)
abbrev evZ : Obj := .cells #[.string ⟨#[]⟩, .int .i64 0, .int .i64 0, .int .i64 0, .string ⟨#[]⟩, .slice none 0 0, .slice none 0 0] 28

theorem but_put {B : Nat} {w w' : World} (h : But B w w') {b o : Nat} (hb : w.heap.size ≤ b) (v : Value) : But B w (w'.setCell ⟨b, o, none⟩ v) :=
  ⟨h.os, h.tape, h.output, by simp only [World.setCell, Array.size_modify]; exact h.size, fun i hi hne => by rw [Below.heap_setCell _ _ _ _ (by show i ≠ b; omega)]; exact h.block i hi hne⟩

/-- What the walk's worlds hold: the box of the reader, that of the answer, that of the event, and the reader. -/
structure EB (w : World) (R : Nat) (s : ByteArray) (a : Nat) (p l : Int) (f : Nat → Value) (W : World) : Prop where
  box : W.cell? ⟨w.heap.size, 0, none⟩ = some (.pointer (some ⟨R, 0, none⟩))
  ans : W.rowIs (w.heap.size + 1) 28 7 zE
  read : W.rowIs (w.heap.size + 2) 28 7 f
  tr : TR W R s a p l
  but : But R w W
  size : w.heap.size + 3 ≤ W.heap.size
  lt : R < w.heap.size
section
variable {w W W' : World} {R : Nat} {s : ByteArray} {a a' : Nat} {p l p' l' : Int} {f : Nat → Value}
theorem EB.next (h : EB w R s a p l f W) (hb : But R W W') (ht : TR W' R s a' p' l') : EB w R s a' p' l' f W' := by
  have h1 := h.lt; have h2 := h.size
  have e : W'.heap[w.heap.size]? = W.heap[w.heap.size]? := hb.at (by omega) (by omega)
  exact ⟨by rw [World.cell?_of_block (w := W) e]; exact h.box, h.ans.of_block (hb.at (by omega) (by omega)), h.read.of_block (hb.at (by omega) (by omega)), ht, h.but.trans hb, Nat.le_trans h2 hb.size, h1⟩
theorem EB.set (h : EB w R s a p l f W) (j : Nat) (v : Value) : EB w R s a p l (fun i => if i = j then v else f i) (W.setCell ⟨w.heap.size + 2, j, none⟩ v) := by
  have h1 := h.lt; have h2 := h.size
  refine ⟨?_, h.ans.setOther (by simp) _, h.read.set j v, h.tr.of_block (Below.heap_setCell _ _ _ _ (by simp; omega)), but_put h.but (by omega) v, by rw [World.size_setCell]; exact h2, h1⟩
  rw [World.cell?_setCell_other _ _ _ _ (fun e => by have := congrArg Addr.block e; simp at this)]; exact h.box
theorem EB.on (h : EB w R s a p l f W) (hb : Below W.heap.size W W') : EB w R s a p l f W' := h.next (But.of_below hb) (h.tr.of_block (hb.block R h.tr.lt))
theorem EB.drewN (h : EB w R s a p l f W) (m : Nat) : EB w R s a p l f (W.drewN m) := ⟨h.box, h.ans.of_block rfl, h.read.of_block rfl, h.tr.drewN m, but_drewN h.but m, h.size, h.lt⟩
end

theorem eb_start {w : World} {R : Nat} {s : ByteArray} (h : TR w R s 0 0 0) : EB w R s 0 0 0 zE (((w.alloc (.cells #[.pointer (some ⟨R, 0, none⟩)] 63)).alloc evZ).alloc evZ) := by
  have hlt := h.lt
  have b0 : (w.alloc (.cells #[.pointer (some ⟨R, 0, none⟩)] 63)).cell? ⟨w.heap.size, 0, none⟩ = some (.pointer (some ⟨R, 0, none⟩)) := by simp [go_sem]
  have hb1 : Below (w.alloc (.cells #[.pointer (some ⟨R, 0, none⟩)] 63)).heap.size (w.alloc (.cells #[.pointer (some ⟨R, 0, none⟩)] 63)) (((w.alloc (.cells #[.pointer (some ⟨R, 0, none⟩)] 63)).alloc evZ).alloc evZ) := ((Below.refl _ _).alloc (Nat.le_refl _) _).alloc (by simp) _
  have r1 := (row7_alloc (w.alloc (.cells #[.pointer (some ⟨R, 0, none⟩)] 63)) (.string ⟨#[]⟩) (.int .i64 0) (.int .i64 0) (.int .i64 0) (.string ⟨#[]⟩) (.slice none 0 0) (.slice none 0 0) 28).alloc evZ
  have r2 := row7_alloc ((w.alloc (.cells #[.pointer (some ⟨R, 0, none⟩)] 63)).alloc evZ) (.string ⟨#[]⟩) (.int .i64 0) (.int .i64 0) (.int .i64 0) (.string ⟨#[]⟩) (.slice none 0 0) (.slice none 0 0) 28
  rw [World.size_alloc] at r1
  rw [World.size_alloc, World.size_alloc] at r2
  refine ⟨?_, r1, r2, ((h.alloc _).alloc _).alloc _, ((But.alloc R w _).trans (But.alloc R _ _)).trans (But.alloc R _ _), by simp, hlt⟩
  rw [hb1.cell (by simp)]
  exact b0

/-- How reading the whole ends. -/
def WhE (R : Nat) (w w' : World) (s : ByteArray) (e : Ending) : Prop :=
  But R w w' ∧ ((∃ (ty : ByteArray) (ver : Int) (t : Tr) (c : C5) (F : List Nat), e = .returned (.agg #[.string ty, .int .i64 ver, c.c0, c.c1, c.c2, c.c3, c.c4]) ∧ Own w' t c F ∧ F.Nodup ∧ (∀ x, x ∈ F → w.heap.size ≤ x ∧ x < w'.heap.size) ∧ EvR s.data.toList ty ver t)
    ∨ (e = fltE ∧ ∀ ty ver t, ¬ EvR s.data.toList ty ver t))

theorem ext_all (s : ByteArray) : s.extract 0 s.size = s := by simp

set_option maxRecDepth 100000 in
set_option maxHeartbeats 6400000 in
theorem wholeE_any (w : World) (R : Nat) (s : ByteArray) (hs : s.size ≤ 1048576) (h : TR w R s 0 0 0) (hE : Env w) (hT : Tab w) (hR : gTop ≤ R) (hRT : 1 < R) :
    Calls Tryz.prog 41 #[.agg #[.pointer (some ⟨R, 0, none⟩)]] w fun e w' => WhE R w w' s e := by
  have hlt := h.lt
  have hst := eb_start h
  have hba : But R w ((w.alloc (.cells #[.pointer (some ⟨R, 0, none⟩)] 63)).alloc evZ) := (But.alloc R w _).trans (But.alloc R _ _)
  have hta : TR ((w.alloc (.cells #[.pointer (some ⟨R, 0, none⟩)] 63)).alloc evZ) R s 0 0 0 := (h.alloc _).alloc _
  have hsa : ((w.alloc (.cells #[.pointer (some ⟨R, 0, none⟩)] 63)).alloc evZ).heap.size = w.heap.size + 2 := by simp
  have xa : ((w.alloc (.cells #[.pointer (some ⟨R, 0, none⟩)] 63)).alloc evZ).cell? ⟨w.heap.size, 0, none⟩ = some (.pointer (some ⟨R, 0, none⟩)) := by
    have hb1 : Below (w.alloc (.cells #[.pointer (some ⟨R, 0, none⟩)] 63)).heap.size (w.alloc (.cells #[.pointer (some ⟨R, 0, none⟩)] 63)) ((w.alloc (.cells #[.pointer (some ⟨R, 0, none⟩)] 63)).alloc evZ) := (Below.refl _ _).alloc (Nat.le_refl _) _
    rw [hb1.cell (by simp)]; simp [go_sem]
  obtain ⟨Wa, hWa⟩ : ∃ Wa, (w.alloc (.cells #[.pointer (some ⟨R, 0, none⟩)] 63)).alloc (.cells #[.string ⟨#[]⟩, .int .i64 0, .int .i64 0, .int .i64 0, .string ⟨#[]⟩, .slice none 0 0, .slice none 0 0] 28) = Wa := ⟨_, rfl⟩
  rw [hWa] at hst hba hta hsa xa
  obtain ⟨Wb, hWb⟩ : ∃ Wb, Wa.alloc (.cells #[.string ⟨#[]⟩, .int .i64 0, .int .i64 0, .int .i64 0, .string ⟨#[]⟩, .slice none 0 0, .slice none 0 0] 28) = Wb := ⟨_, rfl⟩
  rw [hWb] at hst
  have ca := hta.tx.c0
  have HEV := hide (fun ty v t (h : EvR s.data.toList ty v t) => ev_all h)
  have hkl := tE_le s
  by_cases h10 : s.size ≤ 10000
  · have hd : decide ((s.size : Int) ≤ 10000) = true := by simp; omega
    have htn := typeName_any Wb R s 0 0 0 hs hst.tr (Nat.zero_le _)
    rw [ext_all, Nat.zero_add] at htn
    have HMK := hide (fun (n : Int) (t : Tr) (q : Int) => ev_make (s := s) (n := n) (t := t) (q := q))
    generalize hk : tE s = k at *
    generalize hty : s.extract 0 k = ty at *
    have htys : ty.size ≤ 9223372036854775807 := by rw [← hty, ByteArray.size_extract]; omega
    have xb := hst.box
    have HTN := hide htn; have HST := hide hst; have HE := hide hE; have HT := hide hT
    clear htn hst hE hT h hk hty hba hta
    go_enter Tryz.func41, Tryz.ntmps41
    go_wp2_with (first
      | (go_at_call 68; refine (treeWant_yes _).mono ?_; rintro e w2 ⟨rfl, rfl⟩)
      | (go_at_call 71
         refine (unhide HTN).mono ?_
         rintro e w3 ⟨rfl, ht3, hb3⟩
         have hst3 := (unhide HST).next hb3 ht3
         have p0 : w3.cell? ⟨w.heap.size + 2, 0, none⟩ = some (.string ⟨#[]⟩) := hst3.read.cell (i := 0) (by omega)
         have pf := hst3.read.frozen 0
         have hst4 := hst3.set 0 (.string ty)
         obtain ⟨W4, hW4⟩ : ∃ W4, w3.setCell ⟨w.heap.size + 2, 0, none⟩ (.string ty) = W4 := ⟨_, rfl⟩
         rw [hW4] at hst4
         have x4 := hst4.box
         have HST4 := hide hst4
         clear hst3 hst4 ht3 hb3 HTN HST))
    by_cases h64 : (lf s k).head? = some 64
    · have hst4 := unhide HST4
      have htk : Calls Tryz.prog 72 #[.pointer (some ⟨R, 2, none⟩), .string ⟨#[64]⟩] W4 fun e w' => e = .returned (.tuple #[]) ∧ Tx w' R 2 s (k + 1) ∧ Mv R 3 W4 w' := xtake_yes W4 R 2 s (w1 64) k hs hst4.tr.tx hkl (by decide) (by decide) (by rw [pre_one]; exact decide_eq_true h64)
      have hkr := lf_room h64
      have HNO := hide h64
      refine htk.mono ?_
      rintro e w5 ⟨rfl, ht5, hm5⟩
      have hst5 := hst4.next hm5.but (hst4.tr.mv hm5 ht5)
      have x5 := hst5.box
      have HN := hide (number_any w5 R 2 s (k + 1) hs ht5 hkr ((unhide HE).but hst5.but hR) hR)
      obtain ⟨hna1, hna2, -, hna4⟩ := num_at (s := s) (a := k + 1) hkr
      have hrl := rn_le isDg s (nAt s (k + 1)) hna2
      have HST5 := hide hst5; have HA4 := hide hna4
      clear hst4 hst5 htk ht5 hm5 HST4 x4 hW4 h64 hna4 hna1 hna2
      generalize nAt s (k + 1) + rn isDg s (nAt s (k + 1)) = a2 at *
      go_wp2_with fail
      refine (unhide HN).mono ?_
      rintro e w6 ⟨hm6, ht6, ⟨n, hn1, hn2, rfl⟩ | ⟨hn1, rfl⟩⟩
      · have hst6 := (unhide HST5).next hm6.but ((unhide HST5).tr.mg hm6 ht6)
        obtain ⟨hn0, hn0'⟩ := Lib.atoiAll_bounds hn1
        have p1 : w6.cell? ⟨w.heap.size + 2, 1, none⟩ = some (.int .i64 0) := by
          have := hst6.read.cell (i := 1) (by omega)
          simpa [zE, row7] using this
        have pf := hst6.read.frozen 1
        have hst7 := hst6.set 1 (.int .i64 n)
        obtain ⟨W7, hW7⟩ : ∃ W7, w6.setCell ⟨w.heap.size + 2, 1, none⟩ (.int .i64 n) = W7 := ⟨_, rfl⟩
        rw [hW7] at hst7
        have x7 := hst7.box
        have htr := treeR_all 6 (Nat.le_refl _) W7 R s a2 0 hs (by simpa using hst7.tr) (by omega) ((unhide HE).but hst7.but hR) hR (by omega) (by omega)
        rw [show (6 : Int) - ((6 : Nat) : Int) = 0 from by decide, unhide HA4] at htr
        have HTR := hide htr; have HST7 := hide hst7; have HN1 := hide hn1; have HN2 := hide hn2
        clear htr hst6 hst7 hm6 ht6 hn1 hn2 HN HST5 x5
        go_wp2_with fail
        refine (unhide HTR).mono ?_
        rintro e w8 ⟨hb8, ⟨t, a3, q, v, g1, g2, rfl, g4, g5, g6, g7⟩ | ⟨g1, rfl⟩⟩
        · have hst8 := (unhide HST7).next hb8 g5
          have hwl := ev_wlk g1
          have hpl := plainTree_all (tsz t + 1) t (by omega) 0 0 q (by omega) (by omega) hwl (fun b => W7.heap.size ≤ b ∧ b < w8.heap.size) v w8 (fun _ h => h.2) g4
          obtain ⟨T, x, rfl⟩ := g4.iface
          have x8 := hst8.box
          have HPL := hide hpl; have HST8 := hide hst8; have HG1 := hide g1
          clear hpl hst8 g1 g4 g5 hb8 hwl HTR HST7 x7 hW7 p1 pf
          go_wp2_with fail
          refine (unhide HPL).mono ?_
          rintro e w9 ⟨⟨d0, d1, d2, d3, d4⟩, F, rfl, ho, hnd, hF, hb9⟩
          obtain ⟨e0, e1, e2, -, -, -, F1, F2, -, ⟨a5, cap5, e3, -⟩, a6, cap6, e4, -⟩ := ho.open
          simp only at e0 e1 e2 e3 e4
          subst e0 e1 e2 e3 e4
          have hst9 := (unhide HST8).on hb9
          have hsz8 := (unhide HST8).size
          have q2 : w9.cell? ⟨w.heap.size + 2, 2, none⟩ = some (.int .i64 0) := by have := hst9.read.cell (i := 2) (by omega); simpa [zE, row7] using this
          have q3 : w9.cell? ⟨w.heap.size + 2, 3, none⟩ = some (.int .i64 0) := by have := hst9.read.cell (i := 3) (by omega); simpa [zE, row7] using this
          have q4 : w9.cell? ⟨w.heap.size + 2, 4, none⟩ = some (.string ⟨#[]⟩) := by have := hst9.read.cell (i := 4) (by omega); simpa [zE, row7] using this
          have q5 : w9.cell? ⟨w.heap.size + 2, 5, none⟩ = some (.slice none 0 0) := by have := hst9.read.cell (i := 5) (by omega); simpa [zE, row7] using this
          have q6 : w9.cell? ⟨w.heap.size + 2, 6, none⟩ = some (.slice none 0 0) := by have := hst9.read.cell (i := 6) (by omega); simpa [zE, row7] using this
          have qf := hst9.read.frozen
          have hst10 := ((((hst9.set 2 (.int .i64 t.sort)).set 3 (.int .i64 t.num)).set 4 (.string t.text)).set 5 (.slice a5 t.names.length cap5)).set 6 (.slice a6 t.kids.length cap6)
          have ho10 : Own (((((w9.setCell ⟨w.heap.size + 2, 2, none⟩ (.int .i64 t.sort)).setCell ⟨w.heap.size + 2, 3, none⟩ (.int .i64 t.num)).setCell ⟨w.heap.size + 2, 4, none⟩ (.string t.text)).setCell ⟨w.heap.size + 2, 5, none⟩ (.slice a5 t.names.length cap5)).setCell ⟨w.heap.size + 2, 6, none⟩ (.slice a6 t.kids.length cap6)) t ⟨.int .i64 t.sort, .int .i64 t.num, .string t.text, .slice a5 t.names.length cap5, .slice a6 t.kids.length cap6⟩ F := Own.carry t _ F (fun b hb => by have := (hF b hb).1; repeat rw [Below.heap_setCell _ _ _ _ (by simp <;> omega)]) ho
          have hF10 : ∀ b, b ∈ F → w.heap.size + 3 ≤ b ∧ b < (((((w9.setCell ⟨w.heap.size + 2, 2, none⟩ (.int .i64 t.sort)).setCell ⟨w.heap.size + 2, 3, none⟩ (.int .i64 t.num)).setCell ⟨w.heap.size + 2, 4, none⟩ (.string t.text)).setCell ⟨w.heap.size + 2, 5, none⟩ (.slice a5 t.names.length cap5)).setCell ⟨w.heap.size + 2, 6, none⟩ (.slice a6 t.kids.length cap6)).heap.size := fun b hb => by have := hF b hb; simp only [World.size_setCell]; omega
          obtain ⟨W10, hW10⟩ : ∃ W10, (((((w9.setCell ⟨w.heap.size + 2, 2, none⟩ (.int .i64 t.sort)).setCell ⟨w.heap.size + 2, 3, none⟩ (.int .i64 t.num)).setCell ⟨w.heap.size + 2, 4, none⟩ (.string t.text)).setCell ⟨w.heap.size + 2, 5, none⟩ (.slice a5 t.names.length cap5)).setCell ⟨w.heap.size + 2, 6, none⟩ (.slice a6 t.kids.length cap6)) = W10 := ⟨_, rfl⟩
          rw [hW10] at hst10 ho10 hF10
          have x10 := hst10.box
          have r0 : W10.cell? ⟨w.heap.size + 2, 0, none⟩ = some (.string ty) := by have := hst10.read.cell (i := 0) (by omega); simpa using this
          have r1 : W10.cell? ⟨w.heap.size + 2, 1, none⟩ = some (.int .i64 n) := by have := hst10.read.cell (i := 1) (by omega); simpa using this
          have r2 : W10.cell? ⟨w.heap.size + 2, 2, none⟩ = some (.int .i64 t.sort) := by have := hst10.read.cell (i := 2) (by omega); simpa using this
          have r3 : W10.cell? ⟨w.heap.size + 2, 3, none⟩ = some (.int .i64 t.num) := by have := hst10.read.cell (i := 3) (by omega); simpa using this
          have r4 : W10.cell? ⟨w.heap.size + 2, 4, none⟩ = some (.string t.text) := by have := hst10.read.cell (i := 4) (by omega); simpa using this
          have r5 : W10.cell? ⟨w.heap.size + 2, 5, none⟩ = some (.slice a5 t.names.length cap5) := by have := hst10.read.cell (i := 5) (by omega); simpa using this
          have r6 : W10.cell? ⟨w.heap.size + 2, 6, none⟩ = some (.slice a6 t.kids.length cap6) := by have := hst10.read.cell (i := 6) (by omega); simpa using this
          have HST10 := hide hst10; have HO := hide ho10; have HF := hide hF10
          clear hst9 hst10 ho10 hF10 ho hF hb9 HPL HST8 x8
          by_cases hend : a3 = s.size
          · subst hend
            have HEN := hide (xend_yes W10 R 2 s (unhide HST10).tr.tx)
            go_wp2_with (go_at_call 76; refine (unhide HEN).mono ?_; rintro e w11 ⟨rfl, m, rfl⟩)
            have hst11 := (unhide HST10).drewN m
            have ho11 : Own (W10.drewN m) t ⟨.int .i64 t.sort, .int .i64 t.num, .string t.text, .slice a5 t.names.length cap5, .slice a6 t.kids.length cap6⟩ F := Own.carry (w := W10) t _ F (fun _ _ => rfl) (unhide HO)
            have hok := implEventOk_any ty n t (· ∈ F) ⟨.int .i64 t.sort, .int .i64 t.num, .string t.text, .slice a5 t.names.length cap5, .slice a6 t.kids.length cap6⟩ (W10.drewN m) (fun b hb => (unhide HF b hb).2) (Own.rep t _ F (fun _ h => h) ho11) htys ⟨hn0, hn0'⟩ ((unhide HT).but hst11.but hRT)
            refine hok.mono ?_
            rintro e w12 ⟨rfl, hb12⟩
            have hst12 := hst11.on hb12
            have ho12 := Own.carry t _ F (fun b hb => hb12.block b (unhide HF b hb).2) ho11
            have hs12 := hb12.size
            cases hb : evOkB ty n t with
            | true =>
              have hu : EvR s.data.toList ty n t := ⟨hb, unhide HMK n t q (unhide HNO) (unhide HN2) (by rw [unhide HG1, lf_nil (Nat.le_refl _)])⟩
              have a0 := hst12.ans.cell (i := 0) (by omega); have a1 := hst12.ans.cell (i := 1) (by omega); have a2' := hst12.ans.cell (i := 2) (by omega); have a3 := hst12.ans.cell (i := 3) (by omega); have a4 := hst12.ans.cell (i := 4) (by omega); have a5' := hst12.ans.cell (i := 5) (by omega); have a6' := hst12.ans.cell (i := 6) (by omega)
              have af := hst12.ans.frozen
              simp only [zE, row7] at a0 a1 a2' a3 a4 a5' a6'
              have s0 : w12.cell? ⟨w.heap.size + 2, 0, none⟩ = some (.string ty) := by have := hst12.read.cell (i := 0) (by omega); simpa using this
              have s1 : w12.cell? ⟨w.heap.size + 2, 1, none⟩ = some (.int .i64 n) := by have := hst12.read.cell (i := 1) (by omega); simpa using this
              have s2 : w12.cell? ⟨w.heap.size + 2, 2, none⟩ = some (.int .i64 t.sort) := by have := hst12.read.cell (i := 2) (by omega); simpa using this
              have s3 : w12.cell? ⟨w.heap.size + 2, 3, none⟩ = some (.int .i64 t.num) := by have := hst12.read.cell (i := 3) (by omega); simpa using this
              have s4 : w12.cell? ⟨w.heap.size + 2, 4, none⟩ = some (.string t.text) := by have := hst12.read.cell (i := 4) (by omega); simpa using this
              have s5 : w12.cell? ⟨w.heap.size + 2, 5, none⟩ = some (.slice a5 t.names.length cap5) := by have := hst12.read.cell (i := 5) (by omega); simpa using this
              have s6 : w12.cell? ⟨w.heap.size + 2, 6, none⟩ = some (.slice a6 t.kids.length cap6) := by have := hst12.read.cell (i := 6) (by omega); simpa using this
              have HU := hide hu; have HB12 := hide hst12.but; have HO12 := hide ho12; have HS12 := hide hs12
              clear hu hst12 hst11 ho12 ho11 hok hb12 hs12 HEN HST10 HO x10 r0 r1 r2 r3 r4 r5 r6 q2 q3 q4 q5 q6 qf hW10
              go_wp2_with (go_at_call 68; refine (treeWant_yes _).mono ?_; rintro e w13 ⟨rfl, rfl⟩)
              refine bodyPost_ret (v := .agg #[.string ty, .int .i64 n, .int .i64 t.sort, .int .i64 t.num, .string t.text, .slice a5 t.names.length cap5, .slice a6 t.kids.length cap6]) (by simp [results, Tryz.results41, go_sem, a0, a1, a2', a3, a4, a5', a6']) rfl ?_
              refine ⟨?_, Or.inl ⟨ty, n, t, ⟨_, _, _, _, _⟩, F, rfl, Own.carry _ _ F (fun y hy => by have := (unhide HF y hy).1; repeat rw [Below.heap_setCell _ _ _ _ (by simp <;> omega)]) (unhide HO12), hnd, fun y hy => ⟨by have := (unhide HF y hy).1; omega, by simp only [World.size_setCell]; have := (unhide HF y hy).2; have := unhide HS12; simp at this; omega⟩, unhide HU⟩⟩
              repeat refine but_put ?_ (by omega) _
              exact unhide HB12
            | false =>
              have hnn : ∀ ty' ver' t', ¬ EvR s.data.toList ty' ver' t' := fun ty' ver' t' h => by
                obtain ⟨-, b2, -, b4, b5, b6⟩ := unhide HEV ty' ver' t' h
                have hn1 := unhide HN1
                have hg1 := unhide HG1
                rw [b4] at hn1 hg1
                rw [b5] at hn1
                rw [b6] at hg1
                simp only [Lib.NumEnd.ok.injEq, Option.some.injEq, Prod.mk.injEq] at hn1 hg1
                have h1 := h.1
                rw [← b2, hn1, hg1.1, hb] at h1
                cases h1
              have HNN := hide hnn
              clear hnn
              have HB12 := hide hst12.but
              clear hst12 hst11 ho12 ho11 hok hb12 hs12 HEN HST10 HO x10 r0 r1 r2 r3 r4 r5 r6 q2 q3 q4 q5 q6 qf hW10
              go_wp2_with (go_at_call 68; refine (treeWant_no _).mono ?_; rintro e w13 ⟨rfl, rfl⟩)
              exact ⟨rfl, unhide HB12, Or.inr ⟨rfl, unhide HNN⟩⟩
          · have HEN := hide (xend_no W10 R 2 s a3 (unhide HST10).tr.tx (by omega))
            go_wp2_with (go_at_call 76; refine (unhide HEN).mono ?_; rintro e w11 ⟨rfl, m, rfl⟩)
            refine ⟨rfl, but_drewN (unhide HST10).but m, Or.inr ⟨rfl, fun ty' ver' t' h => ?_⟩⟩
            obtain ⟨-, b2, -, b4, b5, b6⟩ := unhide HEV ty' ver' t' h
            have hg1 := unhide HG1
            rw [b4] at hg1
            rw [b6] at hg1
            simp only [Option.some.injEq, Prod.mk.injEq] at hg1
            have := lf_len s a3
            rw [← hg1.2.1] at this
            simp at this
            omega
        · have hb := (unhide HST7).but.trans hb8
          refine ⟨rfl, hb, Or.inr ⟨rfl, fun ty' ver' t' h => ?_⟩⟩
          obtain ⟨-, b2, -, b4, b5, b6⟩ := unhide HEV ty' ver' t' h
          rw [b4, b6] at g1
          cases g1
      · refine ⟨rfl, (unhide HST5).but.trans hm6.but, Or.inr ⟨rfl, fun ty' ver' t' h => ?_⟩⟩
        obtain ⟨-, b2, -, b4, b5, b6⟩ := unhide HEV ty' ver' t' h
        rw [b4] at hn1
        exact hn1 ver' b5 rfl
    · have htk : Calls Tryz.prog 72 #[.pointer (some ⟨R, 2, none⟩), .string ⟨#[64]⟩] W4 fun e w' => e = fltE ∧ ∃ m, w' = W4.drewN m := xtake_no W4 R 2 s (w1 64) k (unhide HST4).tr.tx hkl (by rw [pre_one]; exact decide_eq_false h64)
      refine htk.mono ?_
      rintro e w5 ⟨rfl, m, rfl⟩
      exact ⟨rfl, but_drewN (unhide HST4).but m, Or.inr ⟨rfl, fun ty' ver' t' h => h64 (unhide HEV ty' ver' t' h).2.2.1⟩⟩
  · have hd : decide ((s.size : Int) ≤ 10000) = false := by simp; omega
    have HB := hide hba
    clear hst hE hT h hba hta
    go_enter Tryz.func41, Tryz.ntmps41
    go_wp2_with (go_at_call 68; refine (treeWant_no _).mono ?_; rintro e w2 ⟨rfl, rfl⟩)
    exact ⟨rfl, unhide HB, Or.inr ⟨rfl, fun ty' ver' t' h => h10 (unhide HEV ty' ver' t' h).1⟩⟩
end Go.Proofs.YtbkagahmiibclaaGreatDoor

/- The walk of the program's newTreeReader. No conditions. -/

namespace Go.Proofs.YtbkagahmiibclaaGreatDoor
open Go Go.RowKit

theorem zeroTR : Tryz.zeroCells108 = #[.int .i64 0, .int .i64 0, .string ByteArray.empty, .int .i64 0] ++ Array.replicate 256 .nilFunc := by kernel_rfl

/-- The cells of a reader without methods. -/
def f0 (s : ByteArray) (i : Nat) : Value := if i = 2 then .string s else if i < 4 then .int .i64 0 else .nilFunc

theorem row0 (w : World) (s : ByteArray) : (w.alloc (.cells ((Tryz.zeroCells108.setIfInBounds 2 (.string s)).setIfInBounds 3 (.int .i64 0)) 108)).rowIs w.heap.size 108 260 (f0 s) := by
  have h := World.rowIs_alloc w ((Tryz.zeroCells108.setIfInBounds 2 (.string s)).setIfInBounds 3 (.int .i64 0)) 108 (f0 s) (fun i hi => by
    rw [zeroTR] at hi ⊢
    simp only [Array.size_setIfInBounds, Array.size_append, Array.size_replicate] at hi
    rw [Array.getElem?_setIfInBounds, Array.getElem?_setIfInBounds]
    have hsz : (#[Value.int .i64 0, .int .i64 0, .string ByteArray.empty, .int .i64 0] : Array Value).size = 4 := rfl
    rw [hsz] at hi
    by_cases h3 : 3 = i
    · subst h3; simp [f0]
    · rw [if_neg h3]
      by_cases h2 : 2 = i
      · subst h2; simp [f0]
      · rw [if_neg h2]
        by_cases h4 : i < 4
        · have hi2 : i = 0 ∨ i = 1 := by omega
          rcases hi2 with rfl | rfl <;> simp [f0]
        · rw [Array.getElem?_append_right (by rw [hsz]; omega), hsz]
          simp only [f0]
          rw [if_neg (by omega), if_neg h4, Array.getElem?_replicate, if_pos (by omega)])
  have e : ((Tryz.zeroCells108.setIfInBounds 2 (.string s)).setIfInBounds 3 (.int .i64 0)).size = 260 := by
    rw [Array.size_setIfInBounds, Array.size_setIfInBounds, zeroTR]; simp
  rw [e] at h
  exact h

theorem TR.of_row {W : World} {N : Nat} {s : ByteArray} {a : Nat} {p l : Int} {f : Nat → Value} (h : W.rowIs N 108 260 f) (h0 : f 0 = .int .i64 p) (h1 : f 1 = .int .i64 l) (h2 : f 2 = .string s) (h3 : f 3 = .int .i64 a) (h4 : ∀ i, i < 256 → f (4 + i) = srt N i) : TR W N s a p l :=
  ⟨⟨by rw [h.cell (by omega), h0], by rw [h.cell (by omega), h1], h.frozen 0, h.frozen 1⟩, ⟨by rw [h.cell (by omega), h2], by rw [h.cell (by omega), h3], h.frozen 3⟩, fun i hi => by rw [h.cell (by omega), h4 i hi]⟩

/-- The row behind the last store. -/
theorem row_end {W : World} {N : Nat} {s : ByteArray} (h : W.rowIs N 108 260 (fun j => if 52 ≤ j ∧ j < 4 + 58 then .func (.func 98) #[.pointer (some ⟨N, 0, none⟩)] #[] else f0 s j)) :
    TR ((((((((W.setCell ⟨N, 49, none⟩ (.func (.func 98) #[.pointer (some ⟨N, 0, none⟩)] #[])).setCell ⟨N, 38, none⟩ (.func (.func 99) #[.pointer (some ⟨N, 0, none⟩)] #[])).setCell ⟨N, 125, none⟩ (.func (.func 100) #[.pointer (some ⟨N, 0, none⟩)] #[])).setCell ⟨N, 114, none⟩ (.func (.func 100) #[.pointer (some ⟨N, 0, none⟩)] #[])).setCell ⟨N, 95, none⟩ (.func (.func 101) #[.pointer (some ⟨N, 0, none⟩)] #[])).setCell ⟨N, 127, none⟩ (.func (.func 102) #[.pointer (some ⟨N, 0, none⟩)] #[])).setCell ⟨N, 130, none⟩ (.func (.func 103) #[.pointer (some ⟨N, 0, none⟩)] #[])).setCell ⟨N, 67, none⟩ (.func (.func 103) #[.pointer (some ⟨N, 0, none⟩)] #[])) N s 0 0 0 := by
  have h8 := ((((((((h.set 49 (.func (.func 98) #[.pointer (some ⟨N, 0, none⟩)] #[])).set 38 (.func (.func 99) #[.pointer (some ⟨N, 0, none⟩)] #[])).set 125 (.func (.func 100) #[.pointer (some ⟨N, 0, none⟩)] #[])).set 114 (.func (.func 100) #[.pointer (some ⟨N, 0, none⟩)] #[])).set 95 (.func (.func 101) #[.pointer (some ⟨N, 0, none⟩)] #[])).set 127 (.func (.func 102) #[.pointer (some ⟨N, 0, none⟩)] #[])).set 130 (.func (.func 103) #[.pointer (some ⟨N, 0, none⟩)] #[])).set 67 (.func (.func 103) #[.pointer (some ⟨N, 0, none⟩)] #[]))
  refine TR.of_row h8 (by simp [f0]) (by simp [f0]) (by simp [f0]) (by simp [f0]) (fun i hi => ?_)
  clear h8 h
  unfold srt
  by_cases e1 : i = 63
  · subst e1; simp
  by_cases e2 : i = 126
  · subst e2; simp
  by_cases e3 : i = 123
  · subst e3; simp
  by_cases e4 : i = 91
  · subst e4; simp
  by_cases e5 : i = 110
  · subst e5; simp
  by_cases e6 : i = 121
  · subst e6; simp
  by_cases e7 : i = 34
  · subst e7; simp
  by_cases e8 : i = 45
  · subst e8; simp
  rw [if_neg (by omega), if_neg (by omega), if_neg (by omega), if_neg (by omega), if_neg (by omega), if_neg (by omega), if_neg (by omega), if_neg (by omega)]
  by_cases e9 : 48 ≤ i ∧ i ≤ 57
  · rw [if_pos (by omega), if_pos (Or.inl e9)]
  · rw [if_neg (by omega), if_neg (by omega), if_neg e7, if_neg (by omega), if_neg e4, if_neg e3, if_neg (by omega)]
    unfold f0
    rw [if_neg (by omega), if_neg (by omega)]
theorem below_end {w W : World} {N : Nat} (hb : Below N w W) : Below N w ((((((((W.setCell ⟨N, 49, none⟩ (.func (.func 98) #[.pointer (some ⟨N, 0, none⟩)] #[])).setCell ⟨N, 38, none⟩ (.func (.func 99) #[.pointer (some ⟨N, 0, none⟩)] #[])).setCell ⟨N, 125, none⟩ (.func (.func 100) #[.pointer (some ⟨N, 0, none⟩)] #[])).setCell ⟨N, 114, none⟩ (.func (.func 100) #[.pointer (some ⟨N, 0, none⟩)] #[])).setCell ⟨N, 95, none⟩ (.func (.func 101) #[.pointer (some ⟨N, 0, none⟩)] #[])).setCell ⟨N, 127, none⟩ (.func (.func 102) #[.pointer (some ⟨N, 0, none⟩)] #[])).setCell ⟨N, 130, none⟩ (.func (.func 103) #[.pointer (some ⟨N, 0, none⟩)] #[])).setCell ⟨N, 67, none⟩ (.func (.func 103) #[.pointer (some ⟨N, 0, none⟩)] #[])) := ((((((((hb.setCell (p := ⟨N, 49, none⟩) (Nat.le_refl N) (.func (.func 98) #[.pointer (some ⟨N, 0, none⟩)] #[])).setCell (p := ⟨N, 38, none⟩) (Nat.le_refl N) (.func (.func 99) #[.pointer (some ⟨N, 0, none⟩)] #[])).setCell (p := ⟨N, 125, none⟩) (Nat.le_refl N) (.func (.func 100) #[.pointer (some ⟨N, 0, none⟩)] #[])).setCell (p := ⟨N, 114, none⟩) (Nat.le_refl N) (.func (.func 100) #[.pointer (some ⟨N, 0, none⟩)] #[])).setCell (p := ⟨N, 95, none⟩) (Nat.le_refl N) (.func (.func 101) #[.pointer (some ⟨N, 0, none⟩)] #[])).setCell (p := ⟨N, 127, none⟩) (Nat.le_refl N) (.func (.func 102) #[.pointer (some ⟨N, 0, none⟩)] #[])).setCell (p := ⟨N, 130, none⟩) (Nat.le_refl N) (.func (.func 103) #[.pointer (some ⟨N, 0, none⟩)] #[])).setCell (p := ⟨N, 67, none⟩) (Nat.le_refl N) (.func (.func 103) #[.pointer (some ⟨N, 0, none⟩)] #[]))

set_option maxRecDepth 100000 in
set_option maxHeartbeats 1600000 in
theorem newReader_walk (s : ByteArray) (w : World) :
    Calls Tryz.prog 70 #[.string s] w fun e w' => e = .returned (.pointer (some ⟨w.heap.size, 0, none⟩)) ∧ TR w' w.heap.size s 0 0 0 ∧ Below w.heap.size w w' := by
  have hmf : ∀ (fn : Fn) (first cap : Array Value) (w : World), (Instr.makeFunc fn first cap).run Tryz.prog w = .ok (.func fn first cap) w := fun _ _ _ _ => rfl
  have HR0 := hide (row0 w s)
  have HB0 := hide ((Below.refl w.heap.size w).alloc (Nat.le_refl _) (.cells ((Tryz.zeroCells108.setIfInBounds 2 (.string s)).setIfInBounds 3 (.int .i64 0)) 108))
  go_enter Tryz.func70, Tryz.ntmps70
  go_wp2_with fail
  generalize w.alloc (.cells ((Tryz.zeroCells108.setIfInBounds 2 (.string s)).setIfInBounds 3 (.int .i64 0)) 108) = W0 at *
  generalize hN : w.heap.size = N at *
  go_loopw [4] (fun d wr => ∃ k : Nat, 48 ≤ k ∧ k ≤ 58 ∧ d = .int .i32 k ∧ Hid (wr.rowIs N 108 260 (fun j => if 52 ≤ j ∧ j < 4 + k then .func (.func 98) #[.pointer (some ⟨N, 0, none⟩)] #[] else f0 s j)) ∧ Hid (Below N w wr)) (fun d _ => 58 - (intOf d).toNat)
  case atStart => exact ⟨48, Nat.le_refl _, by omega, rfl, hide ((unhide HR0).congr (fun i hi => by rw [if_neg (by omega)])), HB0⟩
  case round =>
    obtain ⟨k, hk0, hk1, rfl, HR, HB⟩ := hrel
    have hfz : ∀ i, wr.frozen? ⟨N, i, none⟩ = false := fun i => HR.out.frozen i
    by_cases hlt : k < 58
    · have hc := HR.out.cell (i := 4 + k) (by omega)
      simp only [f0] at hc
      rw [if_neg (by omega), if_neg (by omega), if_neg (by omega)] at hc
      have hf := hfz (4 + k)
      have hdl : decide ((k : Int) ≤ 57) = true := by simp; omega
      have hrow : (wr.setCell ⟨N, 4 + k, none⟩ (.func (.func 98) #[.pointer (some ⟨N, 0, none⟩)] #[])).rowIs N 108 260 (fun j => if 52 ≤ j ∧ j < 4 + (k + 1) then .func (.func 98) #[.pointer (some ⟨N, 0, none⟩)] #[] else f0 s j) := by
        refine (HR.out.set (4 + k) _).congr fun j hj => ?_
        by_cases e : j = 4 + k
        · rw [if_pos e, if_pos (by omega)]
        · rw [if_neg e]
          by_cases e2 : 52 ≤ j ∧ j < 4 + k
          · rw [if_pos e2, if_pos (by omega)]
          · rw [if_neg e2, if_neg (by omega)]
      have HROW := hide hrow
      have HBB := hide (HB.out.setCell (p := ⟨N, 4 + k, none⟩) (Nat.le_refl N) (.func (.func 98) #[.pointer (some ⟨N, 0, none⟩)] #[]))
      clear hfz hrow
      go_wp2_with fail
      go_roundw
      case rel => exact ⟨k + 1, by omega, by omega, by go_num, HROW, HBB⟩
      case measure => simp [intOf]; omega
    · obtain rfl : k = 58 := by omega
      have hdl : decide (((58 : Nat) : Int) ≤ 57) = false := by decide
      have hc1 := HR.out.cell (i := 49) (by omega); have hc2 := HR.out.cell (i := 38) (by omega); have hc3 := HR.out.cell (i := 125) (by omega); have hc4 := HR.out.cell (i := 114) (by omega)
      have hc5 := HR.out.cell (i := 95) (by omega); have hc6 := HR.out.cell (i := 127) (by omega); have hc7 := HR.out.cell (i := 130) (by omega); have hc8 := HR.out.cell (i := 67) (by omega)
      simp [f0] at hc1 hc2 hc3 hc4 hc5 hc6 hc7 hc8
      have hz1 := hfz 49; have hz2 := hfz 38; have hz3 := hfz 125; have hz4 := hfz 114; have hz5 := hfz 95; have hz6 := hfz 127; have hz7 := hfz 130; have hz8 := hfz 67
      have HTE := hide (row_end HR.out); have HBE := hide (below_end (N := N) HB.out)
      clear hfz
      go_wp2_with fail
      go_ret
      subst hN
      exact ⟨rfl, unhide HTE, unhide HBE⟩
end Go.Proofs.YtbkagahmiibclaaGreatDoor
