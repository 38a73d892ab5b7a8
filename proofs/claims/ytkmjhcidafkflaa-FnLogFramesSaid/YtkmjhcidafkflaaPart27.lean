/- The walk of the program's LogFrames. For rows of at most 2^20 bytes. -/
import Derived.Test.YtkmjhcidafkflaaPart26
namespace Go.Proofs.Ytkmjhcidafkflaa
open Go Go.RowKit

/-- How much is left at a cursor. -/
def leftAt (w : World) (R : Nat) : Nat := match w.cell? ⟨R, 0, none⟩ with
  | some (.string r) => r.size
  | _ => 0
theorem Cur.left {w : World} {R : Nat} {r : ByteArray} (h : Cur w R r) : leftAt w R = r.size := by
  unfold leftAt; rw [World.rowIs.cell h (i := 0) (by omega)]

set_option maxRecDepth 100000 in
set_option maxHeartbeats 3200000 in
theorem implLogFrames_any (s : ByteArray) (hs : s.size ≤ 1048576) (w : World) : Calls Try.prog 8 #[.string s] w fun e w' => FrEnd w w' e s := by
  obtain ⟨j0, hj, hy0, hy1, hy2⟩ := infoRecD
  have HJJ := hide hj; have HY0 := hide hy0; have HY1 := hide hy1; have HY2 := hide hy2
  have HC0 := hide (show Cur (w.alloc (.cells #[.string s] 53)) w.heap.size (s.extract 0 s.size) by rw [drp_zero]; exact Cur.alloc w s)
  clear hj hy0 hy1 hy2
  go_enter Try.func8, Try.ntmps8
  go_wp2_with fail
  go_loopw [4] (fun vo wr => ∃ (L : List Rc) (i n : Nat) (ao : Option Addr) (co : Nat), i ≤ s.size ∧ n ≤ 300000 ∧ vo = .slice ao n co ∧ Hid (n = L.length) ∧ Hid (FrI s L i) ∧ Hid (∀ r, r ∈ L → r.okM) ∧ Hid (wr.ownsRow (w.heap.size + 1) 29 2 (.slice ao n co) n (L.map Rc.cs).flatten) ∧ Hid (Cur wr w.heap.size (s.extract i s.size)) ∧ Hid (Below w.heap.size w wr) ∧ w.heap.size + 1 ≤ wr.heap.size) (fun _ wr => leftAt wr w.heap.size)
  case atStart => exact ⟨[], 0, 0, none, 0, Nat.zero_le _, by omega, rfl, rfl, FrI.start s, fun r hr => (by cases hr), World.ownsRow_nil _ _ _ _, HC0, (Below.refl _ _).alloc (Nat.le_refl _) _, by simp⟩
  case round =>
    clear HC0
    obtain ⟨L, i, n, ao, co, hi, hn, rfl, HL, HI, HOK, HO, HC, HB, hbs⟩ := hrel
    have HRE := hide (record_any (s.extract i s.size) (by rw [drp_size]; omega) w.heap.size wr HC.out)
    have HLF := hide (Cur.left HC.out)
    go_wp2_with fail
    refine (unhide HRE).mono ?_
    rintro e w1 ⟨q, d, ok, r', rfl, hc1, hb1, hif⟩
    have hs1 := hb1.size
    have HO1 := hide (ownsRow_keepR HO.out (fun g e => hb1.block g (HO.out.lt g e).2 (by have := (HO.out.lt g e).1; omega)))
    have HB1 := hide (show Below w.heap.size w w1 from HB.out.trans ⟨hb1.os, hb1.tape, hb1.output, hb1.size, fun b hb => hb1.block b (by omega) (by omega)⟩)
    clear hb1 HO HB HC HRE
    by_cases hw : whB s i
    case neg =>
      rw [if_neg (fun h => hw ((whB_drp hi).1 h))] at hif
      obtain ⟨rfl, rfl⟩ := hif
      have c1 := fun o => World.rowIs.cell (World.rowIs.alloc hc1 o) (i := 0) (by omega)
      have hz := drp_size s i
      have HNW := hide hw
      clear hw hc1
      generalize s.extract i s.size = re at *
      go_wp2_with fail
      go_region
      go_wp2_with fail
      go_returns
      have ho := ownsRow_base (World.ownsRow.alloc HO1.out (.cells #[.int .i64 q, .string d] 29)) (base' := w.heap.size) (by omega)
      have hb : Below w.heap.size w (w1.alloc (.cells #[.int .i64 q, .string d] 29)).drew := (HB1.out.alloc HB1.out.size _).drew
      have hfin := FrEnd.of (w := w) (w' := (w1.alloc (.cells #[.int .i64 q, .string d] 29)).drew) (v := .slice ao n co) HI.out (unhide HNW) (by rw [← HL.out]; exact ho) HOK.out hb
      rw [show (i : Int) = (s.size : Int) - ((s.size - i : Nat) : Int) by omega] at hfin
      exact hfin
    rw [if_pos ((whB_drp hi).2 hw)] at hif
    obtain ⟨hq, hd, rfl, hr'⟩ := hif
    have HNX := hide (HI.out.next hw)
    rw [szB_drp, Nat.add_zero, drp_drp] at hr'
    rw [szB_drp, Nat.add_zero, drp_ext] at hd
    rw [psB_drp, Nat.add_zero] at hq
    have hnn := szB_nn s i
    have hfit : i + 5 + (szB s i).toNat ≤ s.size := by have := hw.2.2.2; omega
    have HRC := hide (show rcB s i = ⟨q, d⟩ by unfold rcB; rw [hq, hd, Nat.add_assoc])
    have HDS := hide (show d.size ≤ 9223372036854775807 by rw [hd, ByteArray.size_extract]; omega)
    rw [unhide HRC] at HNX
    have hr2 : r' = s.extract (i + 5 + (szB s i).toNat) s.size := by rw [hr', Nat.add_assoc]
    rw [hr2] at hc1
    have HLN := hide (Cur.left hc1)
    have hn2 : n ≤ 209716 := by have := HI.out.2.2; have := HL.out; omega
    have HHI := hide hi
    have hii : i < i + 5 + (szB s i).toNat := by omega
    generalize i + 5 + (szB s i).toNat = i' at *
    have HLT := hide (show (s.extract i' s.size).size < (s.extract i s.size).size by rw [drp_size, drp_size]; omega)
    have C1 := hide hc1
    clear hc1 hq hd hr' hr2 hw hnn
    have HOa := hide (World.ownsRow.alloc HO1.out (.cells #[.int .i64 q, .string d] 29))
    have HBa := hide (HB1.out.alloc HB1.out.size (.cells #[.int .i64 q, .string d] 29))
    go_wp2_with (at_builtin; (refine append_row _ rfl _ _ 23 rfl (w.heap.size + 1) 29 j0 (.agg #[.int .i64 0, .string ByteArray.empty]) 2 24 Try.underlying23 (unhide HJJ) (unhide HY0) (unhide HY1) (unhide HY2) rfl (by decide) (.slice ao n co) n ((L.map Rc.cs).flatten) rfl (World.ownsRow.alloc (unhide HOa) _) ⟨w1.heap.size + 1, 0, none⟩ 1 1 [.int .i64 q, .string d] rfl rfl (by have := cell_two (w1.alloc (.cells #[.int .i64 q, .string d] 29)) (.int .i64 q) (.string d) 29; rw [World.size_alloc] at this; exact this) (fun u hu => by simp at hu; rcases hu with rfl | rfl <;> rfl) (by decide) (by unfold maxLen; omega) (by omega) (by simp; omega) ?_; intro v' w5 hown5 hgrow5 hat5; obtain ⟨g5, cap5, rfl, -, -⟩ := hown5.form (by omega); have HO5 := hide hown5; have HG5 := hide hgrow5; clear hown5 hgrow5 hat5))
    have hgb : ∀ b, b < w1.heap.size → (∀ x, Value.ownBlock (.slice ao n co) = some x → b ≠ x) → w5.heap[b]? = w1.heap[b]? := fun b hb hne => by
      rw [(unhide HG5).block b (by simp; omega) (fun e => hne b e.symm rfl), Below.heap_alloc _ _ _ (by simp; omega), Below.heap_alloc _ _ _ hb]
    have hcw : Cur w5 w.heap.size (s.extract i' s.size) := World.rowIs.of_block (unhide C1) (hgb _ (by omega) (fun x e => by have := (HO1.out.lt x e).1; omega))
    have hbw : Below w.heap.size w w5 := HB1.out.trans ⟨(unhide HG5).os, (unhide HG5).tape, (unhide HG5).output, by have := (unhide HG5).size; simp at this; omega, fun b hb => hgb b (by omega) (fun x e => by have := (HO1.out.lt x e).1; omega)⟩
    have hs5 : w.heap.size + 1 ≤ w5.heap.size := by have := (unhide HG5).size; simp at this; omega
    have HCW := hide hcw; have HBW := hide hbw
    clear hgb hcw hbw HG5
    go_roundw
    case rel => exact ⟨L ++ [⟨q, d⟩], i', n + 1, some ⟨g5, 0, none⟩, cap5, hfit, by omega, rfl, hide (by have := HL.out; simp; omega), HNX, hide (fun r hr => by
        rcases List.mem_append.1 hr with h | h
        · exact HOK.out r h
        · simp only [List.mem_singleton] at h; subst h; exact unhide HDS), hide (by have := unhide HO5; simpa [Rc.cs] using this), HCW, HBW, hs5⟩
    case measure => rw [Cur.left (unhide HCW), unhide HLF]; exact unhide HLT
end Go.Proofs.Ytkmjhcidafkflaa
