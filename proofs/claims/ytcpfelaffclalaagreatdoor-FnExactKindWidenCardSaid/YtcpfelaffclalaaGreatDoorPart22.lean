/- How many marks a tree that is ok takes, against its parts. No program, no conditions. -/
import Derived.Test.YtcpfelaffclalaaGreatDoorPart21
import Derived.Test.YtcpfelaffclalaaGreatDoorPart10
import Derived.Test.YtcpfelaffclalaaGreatDoorPart11
import Derived.Test.YtcpfelaffclalaaGreatDoorPart20
import Derived.Test.YtcpfelaffclalaaGreatDoorPart19
import Derived.Test.YtcpfelaffclalaaGreatDoorPart01
import Derived.Test.YtcpfelaffclalaaGreatDoorPart17
import Derived.Test.YtcpfelaffclalaaGreatDoorRows
import Derived.Test.YtcpfelaffclalaaGreatDoorPart00
import Derived.Deep.OwnRows
import Derived.Deep.RegionWith
namespace Go.Proofs.YtcpfelaffclalaaGreatDoor
open Go Go.RowKit

mutual
theorem cT_pT : ∀ (t : Tr) (d : Int), 0 < pT t d → (cT t : Int) + 1 ≤ 4 * pT t d
  | .mk s n tx ns ks, d => by
    intro h
    have hs := ok_names h
    have hb := (ok_bare h).2.2.1
    have he := (ok_alone h).2.2
    have h' := h
    rw [he] at h' ⊢
    simp only [Tr.sort, Tr.names, Tr.kids] at *
    have hk := cK_pK ks d 1 h'
    have hn : ns.length ≤ ks.length := by
      by_cases h5 : s = 5
      · rw [(hs h5).1]; exact Nat.le_refl _
      · rw [hb h5]; simp
    rw [cT]
    omega
theorem cK_pK : ∀ (ks : List Tr) (d n : Int), 0 < pK ks d n → (cK ks : Int) + ks.length + 4 * n ≤ 4 * pK ks d n
  | [], d, n, h => by rw [cK, pK]; simp
  | t :: r, d, n, h => by
    rw [pK] at h ⊢
    split at h
    · omega
    · rename_i hh
      rw [if_neg hh]
      have hh' := not_or.1 hh
      have hp : 0 < pT t (d + 1) := by have := pT_bd t (d + 1); omega
      have i1 := cT_pT t (d + 1) hp
      have i2 := cK_pK r d _ h
      rw [cK]
      simp only [List.length_cons]
      omega
end
theorem tr_marks2 {t : Tr} {d : Int} (h : 0 < pT t d) : 1 + t.names.length + cK t.kids ≤ 1099511627776 := by
  have h1 := cT_pT t d h
  have h2 := pT_bd t d
  rw [cT_eq] at h1
  omega

end Go.Proofs.YtcpfelaffclalaaGreatDoor

/- Marks on a tree against its weight; no program, no conditions. -/

namespace Go.Proofs.YtcpfelaffclalaaGreatDoor
open Go Go.RowKit

theorem cT_w : ∀ t : Tr, cT t ≤ 3 + 3 * wT t
  | .mk s n tx ns ks => by
    have h1 := wS_len ns
    have h2 := cK_w ks
    rw [cT, wT]; omega
where
  cK_w : ∀ l : List Tr, cK l ≤ 3 * wK l
  | [] => by rw [cK]; omega
  | t :: r => by
    have h1 := cT_w t
    have h2 := cK_w r
    rw [cK, wK]; omega
end Go.Proofs.YtcpfelaffclalaaGreatDoor

/- For the law on KindFirst: how many marks its trees and schemas take, and what its world holds between the calls. Definitions and small laws; no program walked, no conditions. -/

namespace Go.Proofs.YtcpfelaffclalaaGreatDoor
open Go Go.RowKit

mutual
theorem kcT_le : ∀ t : Kd, kcT t ≤ wKd t + 1
  | .mk s ns ks => by
    rw [kcT, wKd]
    have := wS_len ns; have := kcK_le ks
    omega
theorem kcK_le : ∀ l : List Kd, kcK l ≤ wKs l
  | [] => by rw [kcK]; omega
  | t :: r => by
    rw [kcK, wKs]
    have := kcT_le t; have := kcK_le r
    omega
end
end Go.Proofs.YtcpfelaffclalaaGreatDoor

/- What the law on KindWiden holds behind both calls, and how that is carried on. No conditions. -/

namespace Go.Proofs.YtcpfelaffclalaaGreatDoor
open Go Go.RowKit

/-- The blocks that stay. -/
def KeepB (w : World) (BW BX BY BZ BG : Nat) (PW : Nat → Prop) (b : Nat) : Prop := b < w.heap.size + 3 ∨ b = BW ∨ b = BX ∨ b = BY ∨ b = BZ ∨ b = BG ∨ PW b
structure CWd (w wr : World) (c d : C3) (x : C5) (dX dY : C3) (dZ dW dG : C5) (T T' : Tr) (BW BX BY BZ BG : Nat) (PW D : Nat → Prop) (FG : List Nat) : Prop where
  below : Below w.heap.size w wr
  bA : wr.rowIs w.heap.size 25 3 (row3 c.c0 c.c1 c.c2)
  bB : wr.rowIs (w.heap.size + 1) 25 3 (row3 d.c0 d.c1 d.c2)
  bT : wr.rowIs (w.heap.size + 2) 35 5 (row5 x.c0 x.c1 x.c2 x.c3 x.c4)
  bW : wr.rowIs BW 39 5 (row5 dW.c0 dW.c1 dW.c2 dW.c3 dW.c4)
  bX : wr.rowIs BX 30 3 (row3 dX.c0 dX.c1 dX.c2)
  bY : wr.rowIs BY 30 3 (row3 dY.c0 dY.c1 dY.c2)
  bZ : wr.rowIs BZ 39 5 (row5 dZ.c0 dZ.c1 dZ.c2 dZ.c3 dZ.c4)
  bG : wr.rowIs BG 39 5 (row5 dG.c0 dG.c1 dG.c2 dG.c3 dG.c4)
  oW : Rep PW wr T dW
  oG : Own wr T' dG FG
  lW : ∀ b, PW b → b < wr.heap.size
  lG : ∀ b, b ∈ FG → b < wr.heap.size
  nd : FG.Nodup
  out : ∀ b, D b ∨ b ∈ FG → ¬ KeepB w BW BX BY BZ BG PW b
  apart : ∀ b, D b → b ∉ FG
theorem CWd.move {w wr : World} {c d : C3} {x : C5} {dX dY : C3} {dZ dW dG : C5} {T T' : Tr} {BW BX BY BZ BG : Nat} {PW D : Nat → Prop} {FG : List Nat} {w' : World} {T2 : Tr} (h : CWd w wr c d x dX dY dZ dW dG T T' BW BX BY BZ BG PW D FG) (hs : wr.heap.size ≤ w'.heap.size) (ho : w'.os = wr.os) (ht : w'.tape = wr.tape) (hu : w'.output = wr.output) (hk : ∀ b, b < wr.heap.size → KeepB w BW BX BY BZ BG PW b → w'.heap[b]? = wr.heap[b]?) (hG : Own w' T2 dG FG) : CWd w w' c d x dX dY dZ dW dG T T2 BW BX BY BZ BG PW D FG := by
  have hz := h.below.size
  refine ⟨h.below.trans ⟨ho, ht, hu, hs, fun b hb => hk b (by omega) (Or.inl (by omega))⟩, h.bA.of_block (hk _ h.bA.lt (Or.inl (by omega))), h.bB.of_block (hk _ h.bB.lt (Or.inl (by omega))), h.bT.of_block (hk _ h.bT.lt (Or.inl (by omega))), h.bW.of_block (hk _ h.bW.lt (Or.inr (Or.inl rfl))), h.bX.of_block (hk _ h.bX.lt (Or.inr (Or.inr (Or.inl rfl)))), h.bY.of_block (hk _ h.bY.lt (Or.inr (Or.inr (Or.inr (Or.inl rfl))))), h.bZ.of_block (hk _ h.bZ.lt (Or.inr (Or.inr (Or.inr (Or.inr (Or.inl rfl)))))), h.bG.of_block (hk _ h.bG.lt (Or.inr (Or.inr (Or.inr (Or.inr (Or.inr (Or.inl rfl))))))),
    Rep.carry (fun b hb => hk b (h.lW b hb) (Or.inr (Or.inr (Or.inr (Or.inr (Or.inr (Or.inr hb))))))) (fun _ h => h) _ _ h.oW, hG, fun b hb => Nat.lt_of_lt_of_le (h.lW b hb) hs, fun b hb => Nat.lt_of_lt_of_le (h.lG b hb) hs, h.nd, h.out, h.apart⟩
theorem CWd.on {w wr : World} {c d : C3} {x : C5} {dX dY : C3} {dZ dW dG : C5} {T T' : Tr} {BW BX BY BZ BG : Nat} {PW D : Nat → Prop} {FG : List Nat} {w' : World} (h : CWd w wr c d x dX dY dZ dW dG T T' BW BX BY BZ BG PW D FG) (hb : Below wr.heap.size wr w') : CWd w w' c d x dX dY dZ dW dG T T' BW BX BY BZ BG PW D FG :=
  h.move hb.size hb.os hb.tape hb.output (fun b hl _ => hb.block b hl) (Own.carry _ _ _ (fun b hm => hb.block b (h.lG b hm)) h.oG)
theorem CWd.like {w wr : World} {c d : C3} {x : C5} {dX dY : C3} {dZ dW dG : C5} {T T' : Tr} {BW BX BY BZ BG : Nat} {PW D : Nat → Prop} {FG : List Nat} {w' : World} (h : CWd w wr c d x dX dY dZ dW dG T T' BW BX BY BZ BG PW D FG) (hb : Like D wr w') : CWd w w' c d x dX dY dZ dW dG T T' BW BX BY BZ BG PW D FG :=
  h.move hb.size hb.os hb.tape hb.output (fun b hl hk => hb.block b hl (fun hd => h.out b (Or.inl hd) hk)) (Own.carry _ _ _ (fun b hm => hb.block b (h.lG b hm) (fun hd => h.apart b hd hm)) h.oG)
theorem CWd.exc {w wr : World} {c d : C3} {x : C5} {dX dY : C3} {dZ dW dG : C5} {T T' : Tr} {BW BX BY BZ BG : Nat} {PW D : Nat → Prop} {FG : List Nat} {w' : World} {T2 : Tr} (h : CWd w wr c d x dX dY dZ dW dG T T' BW BX BY BZ BG PW D FG) (hb : Exc FG wr w') (hG : Own w' T2 dG FG) : CWd w w' c d x dX dY dZ dW dG T T2 BW BX BY BZ BG PW D FG :=
  h.move hb.size hb.os hb.tape hb.output (fun b hl hk => hb.block b hl (fun hd => h.out b (Or.inr hd) hk)) hG
theorem CWd.eq {w wr : World} {c d : C3} {x : C5} {dX dY : C3} {dZ dW dG : C5} {T : Tr} {BW BX BY BZ BG : Nat} {PW D : Nat → Prop} {FG : List Nat} (h : CWd w wr c d x dX dY dZ dW dG T T BW BX BY BZ BG PW D FG) : Calls Tryz.prog 15 #[.agg #[dG.c0, dG.c1, dG.c2, dG.c3, dG.c4], .agg #[dW.c0, dW.c1, dW.c2, dW.c3, dW.c4]] wr fun e w' => e = .returned (.bool true) ∧ Below wr.heap.size wr w' :=
  eqTree_any T (· ∈ FG) PW dG dW wr h.lG h.lW (Own.rep T _ FG (fun _ h => h) h.oG) h.oW
theorem CWd.mark {w wr : World} {c d : C3} {x : C5} {dX dY : C3} {dZ dW dG : C5} {T T' : Tr} {BW BX BY BZ BG : Nat} {PW D : Nat → Prop} {FG : List Nat} (h : CWd w wr c d x dX dY dZ dW dG T T' BW BX BY BZ BG PW D FG) (hk : 1 + T'.names.length + cK T'.kids ≤ 1099511627776) :
    Calls Tryz.prog 17 #[.agg #[dG.c0, dG.c1, dG.c2, dG.c3, dG.c4], .int .i64 1] wr fun e w' => e = .returned (.int .i64 (1 + T'.names.length + cK T'.kids : Nat)) ∧ CWd w w' c d x dX dY dZ dW dG T (.mk T'.sort T'.num T'.text (mS 1 T'.names) (mK (1 + T'.names.length) T'.kids)) BW BX BY BZ BG PW D FG :=
  (markTree_any T' dG FG 1 wr h.oG h.nd h.lG (by omega) hk).mono fun e w' ⟨h1, h2, h3⟩ => ⟨h1, h.exc h3 h2⟩
theorem CWd.held {w wr : World} {c d : C3} {x : C5} {dX dY : C3} {dZ dW dG : C5} {T T' : Tr} {BW BX BY BZ BG : Nat} {PW D : Nat → Prop} {FG : List Nat} {s n : Int} {tx : ByteArray} (h : CWd w wr c d x dX dY dZ dW dG T (.mk s n tx (mS 1 T'.names) (mK (1 + T'.names.length) T'.kids)) BW BX BY BZ BG PW D FG) (hk : 1 + T'.names.length + cK T'.kids ≤ 1099511627776) :
    Calls Tryz.prog 18 #[.agg #[dG.c0, dG.c1, dG.c2, dG.c3, dG.c4], .int .i64 1] wr fun e w' => e = .returned (.int .i64 (1 + T'.names.length + cK T'.kids : Nat)) ∧ CWd w w' c d x dX dY dZ dW dG T (.mk s n tx (mS 1 T'.names) (mK (1 + T'.names.length) T'.kids)) BW BX BY BZ BG PW D FG :=
  (heldTree_any T' s n tx (· ∈ FG) dG 1 wr h.lG (Own.rep _ _ FG (fun _ h => h) h.oG) (by omega) hk).mono fun e w' ⟨h1, h2⟩ => ⟨h1, h.on h2⟩
theorem wAn_marks (a b : Kd) (t : Tr) : 1 + (wAn (widA a b t)).names.length + cK (wAn (widA a b t)).kids ≤ 1099511627776 := by
  unfold widA
  split
  · next h => exact tr_marks2 h.2.2
  · simp [wAn, tr0, Tr.names, Tr.kids, cK]
theorem WdE.rep {o : Option Tr} {w w' : World} {e : Ending} (h : WdE o w e w') : ∃ dW : C5, e = .returned (.tuple #[.agg #[dW.c0, dW.c1, dW.c2, dW.c3, dW.c4], .bool o.isSome]) ∧ Rep (New w w') w' (wAn o) dW ∧ Below w.heap.size w w' := by
  obtain ⟨d, F, he, ho, -, hF, hb⟩ := h
  exact ⟨d, he, Own.rep _ _ _ hF ho, hb⟩
end Go.Proofs.YtcpfelaffclalaaGreatDoor

/- The walks of szStringS, toStringS, eqStringS: what they answer, and that they turn nothing that was there. No conditions but toStringS's on the number of strings. -/

namespace Go.Proofs.YtcpfelaffclalaaGreatDoor
open Go Go.RowKit

set_option maxHeartbeats 400000 in
theorem szStringS_any (v : Value) (ss : List ByteArray) (left : Int) (w : World) {P : Nat → Prop} (hv : StrsAt P w v ss) (h0 : 0 ≤ left) (h1 : left ≤ 1048576) :
    Calls Tryz.prog 22 #[v, .int .i64 left] w fun e w' => ∃ r : Int, e = .returned (.int .i64 r) ∧ (r = -1 ∨ (0 ≤ r ∧ r + wS ss = left)) ∧ w' = w := by
  obtain ⟨a, cap, rfl, hlen, hc⟩ := hv
  have HC := hide hc; clear hc
  by_cases hneg : left - ss.length < 0
  · go_enter Tryz.func22, Tryz.ntmps22
    go_wp2
    go_ret
    exact ⟨_, rfl, Or.inl rfl, rfl⟩
  · go_enter Tryz.func22, Tryz.ntmps22
    go_wp2
    go_loop [1, 5] (fun l i => ∃ (k : Nat) (q : Int), k ≤ ss.length ∧ i = .int .i64 k ∧ l = .int .i64 q ∧ 0 ≤ q ∧ q ≤ 1048576 ∧ Hid (q + ss.length + wS (ss.take k) = left + k)) (fun _ i => ss.length - (intOf i).toNat)
    case atStart => exact ⟨0, _, Nat.zero_le _, rfl, rfl, by omega, by omega, by simp [Hid, wS]⟩
    case round =>
      obtain ⟨k, q, hk, rfl, rfl, hq0, hq1, HQ⟩ := hrel
      by_cases hlt : k < ss.length
      · obtain ⟨b, o, rfl, _, hcell, hsz⟩ := unhide HC k hlt
        have hts := wS_take ss k hlt
        have HT := hide hts; clear hts
        by_cases hn : q - ss[k].size < 0
        · go_wp2
          go_ret
          exact ⟨_, rfl, Or.inl rfl, rfl⟩
        · go_wp2
          go_round
          case rel => exact ⟨k + 1, _, by omega, by go_num, rfl, by omega, by omega, by have := HQ.out; have := unhide HT; show _ = _; omega⟩
          case measure => simp [intOf]; omega
      · go_wp2
        go_ret
        refine ⟨_, rfl, Or.inr ⟨hq0, ?_⟩, rfl⟩
        have := HQ.out
        rw [List.take_of_length_le (by omega)] at this
        omega


end Go.Proofs.YtcpfelaffclalaaGreatDoor

/- The walks of toStringS, toTree, toTreeS: they make a new copy of a tree, and turn nothing that was there. No conditions but the tree's weight, at most 2^20. -/

namespace Go.Proofs.YtcpfelaffclalaaGreatDoor
open Go Go.RowKit

/-- The five zero cells of a tree. -/
def z5 : Array Value := #[.int .i64 0, .int .i64 0, .string ByteArray.empty, .slice none 0 0, .slice none 0 0]

theorem infoTree : (Tryz.prog.info? 39).map (fun i => (i.zero, i.size, i.bytes)) = some (some (.agg z5), 5, 80) := by kernel_rfl

theorem run_make_tree (n : Nat) (h : n ≤ 1048576) (w : World) :
    (Instr.makeSlice 37 (.int .i64 (n : Int)) (.int .i64 (n : Int))).run Tryz.prog w = .ok (.slice (some ⟨w.heap.size, 0, none⟩) n n) (w.alloc (.cells (madeCells z5 (n * 5)) 39)) := by
  obtain ⟨i, hi, he⟩ : ∃ i, Tryz.prog.info? 39 = some i ∧ (i.zero, i.size, i.bytes) = (some (.agg z5), 5, 80) := by
    have := infoTree
    cases h : Tryz.prog.info? 39 with
    | none => rw [h] at this; simp at this
    | some i => rw [h] at this; exact ⟨i, rfl, by simpa using this⟩
  simp only [Prod.mk.injEq] at he
  obtain ⟨e1, e2, e3⟩ := he
  have := run_make (P := Tryz.prog) w 37 39 i (.agg z5) Tryz.underlying37 hi e1 .i64 .i64 n n (by omega) (by omega) (by rw [e3]; omega) (by omega)
  rw [this, e2]
  simp [Value.cells]

theorem heap_set5 (w : World) (b o : Nat) (c0 c1 c2 c3 c4 : Value) (k : Nat) (h : k ≠ b) :
    (((((w.setCell ⟨b, o, none⟩ c0).setCell ⟨b, o + 1, none⟩ c1).setCell ⟨b, o + 2, none⟩ c2).setCell ⟨b, o + 3, none⟩ c3).setCell ⟨b, o + 4, none⟩ c4).heap[k]? = w.heap[k]? := by
  rw [Below.heap_setCell _ _ _ _ h, Below.heap_setCell _ _ _ _ h, Below.heap_setCell _ _ _ _ h, Below.heap_setCell _ _ _ _ h, Below.heap_setCell _ _ _ _ h]

theorem heap_set6 (w : World) (b b2 : Nat) (v c0 c1 c2 c3 c4 : Value) (k : Nat) (h : k ≠ b) (h2 : k ≠ b2) :
    ((((((w.setCell ⟨b2, 4, none⟩ v).setCell ⟨b, 0, none⟩ c0).setCell ⟨b, 1, none⟩ c1).setCell ⟨b, 2, none⟩ c2).setCell ⟨b, 3, none⟩ c3).setCell ⟨b, 4, none⟩ c4).heap[k]? = w.heap[k]? := by
  rw [Below.heap_setCell _ _ _ _ h, Below.heap_setCell _ _ _ _ h, Below.heap_setCell _ _ _ _ h, Below.heap_setCell _ _ _ _ h, Below.heap_setCell _ _ _ _ h, Below.heap_setCell _ _ _ _ h2]

theorem box3 {w w1 : World} {x0 x1 x2 x3 x4 y0 y1 y2 y3 y4 z0 z1 z2 z3 z4 : Value} {tx ty tz : TypeId}
    (hb : Below (((w.alloc (.cells #[x0, x1, x2, x3, x4] tx)).alloc (.cells #[y0, y1, y2, y3, y4] ty)).alloc (.cells #[z0, z1, z2, z3, z4] tz)).heap.size (((w.alloc (.cells #[x0, x1, x2, x3, x4] tx)).alloc (.cells #[y0, y1, y2, y3, y4] ty)).alloc (.cells #[z0, z1, z2, z3, z4] tz)) w1) :
    w1.rowIs w.heap.size tx 5 (row5 x0 x1 x2 x3 x4) ∧ w1.rowIs (w.heap.size + 1) ty 5 (row5 y0 y1 y2 y3 y4) ∧ w1.rowIs (w.heap.size + 1 + 1) tz 5 (row5 z0 z1 z2 z3 z4) ∧ w.heap.size + 3 ≤ w1.heap.size ∧ Below w.heap.size w w1 := by
  have e1 : (w.alloc (.cells #[x0, x1, x2, x3, x4] tx)).heap.size = w.heap.size + 1 := by simp
  have e2 : ((w.alloc (.cells #[x0, x1, x2, x3, x4] tx)).alloc (.cells #[y0, y1, y2, y3, y4] ty)).heap.size = w.heap.size + 1 + 1 := by simp
  have r0 := ((row5_alloc w x0 x1 x2 x3 x4 tx).alloc (.cells #[y0, y1, y2, y3, y4] ty)).alloc (.cells #[z0, z1, z2, z3, z4] tz)
  have r1 := (row5_alloc (w.alloc (.cells #[x0, x1, x2, x3, x4] tx)) y0 y1 y2 y3 y4 ty).alloc (.cells #[z0, z1, z2, z3, z4] tz)
  have r2 := row5_alloc ((w.alloc (.cells #[x0, x1, x2, x3, x4] tx)).alloc (.cells #[y0, y1, y2, y3, y4] ty)) z0 z1 z2 z3 z4 tz
  rw [e1] at r1
  rw [e2] at r2
  have hs := hb.size
  refine ⟨r0.of_block (hb.block _ r0.lt), r1.of_block (hb.block _ r1.lt), r2.of_block (hb.block _ r2.lt), by simpa using hs, ?_⟩
  exact ((((Below.refl _ _).alloc (Nat.le_refl _) _).alloc (by simp) _).alloc (by simp; omega) _).trans (hb.mono (by simp; omega))

end Go.Proofs.YtcpfelaffclalaaGreatDoor

/- The walk of toStringS once more: the copy lies in new blocks of which nothing is frozen. No conditions but the number of strings, at most 2^20. -/

namespace Go.Proofs.YtcpfelaffclalaaGreatDoor
open Go Go.RowKit

/-- In blocks that are new between two worlds, and of which nothing is frozen. -/
def NewF (w w' : World) : Nat → Prop := fun b => New w w' b ∧ FreeB w' b

set_option maxHeartbeats 400000 in
theorem toStringS_free (v : Value) (ss : List ByteArray) (w : World) {P : Nat → Prop} (hP : ∀ b, P b → b < w.heap.size) (hv : StrsAt P w v ss) (h1 : ss.length ≤ 1048576) :
    Calls Tryz.prog 26 #[v] w fun e w' => ∃ v', e = .returned v' ∧ (∃ a, v' = .slice a ss.length ss.length) ∧ StrsAt (NewF w w') w' v' ss ∧ Below w.heap.size w w' := by
  obtain ⟨a, cap, rfl, hlen, hc⟩ := hv
  have HC := hide hc; have HP := hide hP; clear hc hP
  have hmk := run_make_row' (P := Tryz.prog) 22 9 (.string ByteArray.empty) 16 Tryz.underlying22 infoString rfl .i64 .i64 ss.length (by omega) (by omega)
  go_enter Tryz.func26, Tryz.ntmps26
  go_wp2_with fail
  clear hmk
  go_loopw [4] (fun i wr => ∃ (k : Nat), k ≤ ss.length ∧ i = .int .i64 k ∧ Hid (wr.rowIs w.heap.size 9 ss.length (fun j => .string (if j < k then (ss[j]?).getD ByteArray.empty else ByteArray.empty))) ∧ Below w.heap.size w wr) (fun i _ => ss.length - (intOf i).toNat)
  case atStart => exact ⟨0, Nat.zero_le _, rfl, hide (by simpa using World.rowIs_made w (.string ByteArray.empty) ss.length _), (Below.refl _ _).alloc (Nat.le_refl _) _⟩
  case round =>
    obtain ⟨k, hk, rfl, HR, hb⟩ := hrel
    by_cases hlt : k < ss.length
    · obtain ⟨b, o, rfl, hpb, hcell, hsz⟩ := unhide HC k hlt
      have hcell' : wr.cell? ⟨b, o + k, none⟩ = some (.string ss[k]) := by rw [hb.cell (unhide HP b hpb)]; exact hcell
      have hf := HR.out.frozen k
      have hcc := HR.out.cell hlt
      simp only [Nat.lt_irrefl, if_false] at hcc
      clear hcell hpb
      go_wp2_with fail
      go_roundw
      case rel =>
        refine ⟨k + 1, by omega, by go_num, ?_, hb.setCell (Nat.le_refl _) _⟩
        refine (HR.out.set k _).congr fun i hi => ?_
        by_cases e : i = k
        · subst e; simp [hi]
        · simp only [if_neg e]
          by_cases e2 : i < k
          · rw [if_pos e2, if_pos (by omega)]
          · rw [if_neg e2, if_neg (by omega)]
      case measure => simp [intOf]; omega
    · go_wp2_with fail
      go_ret
      have hrow := HR.out
      refine ⟨_, rfl, ⟨_, rfl⟩, ⟨_, _, rfl, by omega, fun i hi => ⟨w.heap.size, 0, rfl, ⟨⟨Nat.le_refl _, hrow.lt⟩, fun o => hrow.frozen o⟩, ?_, ?_⟩⟩, hb⟩
      · rw [Nat.zero_add, hrow.cell hi, if_pos (by omega)]; simp [hi]
      · obtain ⟨_, _, _, _, _, h⟩ := unhide HC i hi; exact h

end Go.Proofs.YtcpfelaffclalaaGreatDoor

/- The walks of toTree, toTreeS once more: the copy that they make lies in new blocks of which nothing is frozen. No conditions but the tree's weight, at most 2^20. -/

namespace Go.Proofs.YtcpfelaffclalaaGreatDoor
open Go Go.RowKit

def ToTSaid (n : Nat) : Prop := ∀ (t : Tr), tsz t < n → ∀ (P : Nat → Prop) (c : C5) (w : World), (∀ b, P b → b < w.heap.size) → Rep P w t c → wT t ≤ 1048576 →
    Calls Tryz.prog 13 #[.agg #[c.c0, c.c1, c.c2, c.c3, c.c4]] w fun e w' => ∃ c' : C5, e = .returned (.agg #[c'.c0, c'.c1, c'.c2, c'.c3, c'.c4]) ∧ Rep (NewF w w') w' t c' ∧ Below w.heap.size w w'

/-- What the loop of toTreeS has laid after k rounds: the row, and the trees that its first cells are. -/
def TLaid (w wr : World) (ks : List Tr) (k : Nat) : Prop :=
  ∃ f, wr.rowIs w.heap.size 39 (ks.length * 5) f ∧ ∀ j, j < k → (hj : j < ks.length) → ∃ c : C5, f (j * 5) = c.c0 ∧ f (j * 5 + 1) = c.c1 ∧ f (j * 5 + 2) = c.c2 ∧ f (j * 5 + 3) = c.c3 ∧ f (j * 5 + 4) = c.c4 ∧
    Rep (fun b => (w.heap.size + 1 ≤ b ∧ b < wr.heap.size) ∧ FreeB wr b) wr ks[j] c

theorem TLaid.step {w wr w' : World} {ks : List Tr} {k : Nat} (hlt : k < ks.length) (hL : TLaid w wr ks k) (hb' : Below wr.heap.size wr w') (c : C5) (hr : Rep (NewF wr w') w' ks[k] c) :
    TLaid w (((((w'.setCell ⟨w.heap.size, k * 5, none⟩ c.c0).setCell ⟨w.heap.size, k * 5 + 1, none⟩ c.c1).setCell ⟨w.heap.size, k * 5 + 2, none⟩ c.c2).setCell ⟨w.heap.size, k * 5 + 3, none⟩ c.c3).setCell ⟨w.heap.size, k * 5 + 4, none⟩ c.c4) ks (k + 1) := by
  obtain ⟨f, hrow, hf⟩ := hL
  have hlt0 := hrow.lt
  have hrow' := hrow.of_block (hb'.block _ hrow.lt)
  have hs := hb'.size
  refine ⟨_, ((((hrow'.set (k * 5) c.c0).set (k * 5 + 1) c.c1).set (k * 5 + 2) c.c2).set (k * 5 + 3) c.c3).set (k * 5 + 4) c.c4, fun j hj hjl => ?_⟩
  by_cases e : j = k
  · subst e
    refine ⟨c, by simp, by simp, by simp, by simp, by simp, ?_⟩
    refine Rep.carry (fun b hb => heap_set5 _ _ _ _ _ _ _ _ _ (by have := hb.1.1; omega)) (fun b hb => ⟨?_, hb.2.of_block (heap_set5 _ _ _ _ _ _ _ _ _ (by have := hb.1.1; omega))⟩) _ _ hr
    simp only [size_setCell]
    have := hb.1.1; have := hb.1.2
    omega
  · obtain ⟨d, g0, g1, g2, g3, g4, hd⟩ := hf j (by omega) hjl
    refine ⟨d, ?_, ?_, ?_, ?_, ?_, ?_⟩
    · repeat rw [if_neg (by omega)]
      exact g0
    · repeat rw [if_neg (by omega)]
      exact g1
    · repeat rw [if_neg (by omega)]
      exact g2
    · repeat rw [if_neg (by omega)]
      exact g3
    · repeat rw [if_neg (by omega)]
      exact g4
    · refine Rep.carry (fun b hb => ?_) (fun b hb => ?_) _ _ hd
      · rw [heap_set5 _ _ _ _ _ _ _ _ _ (by omega), hb'.block b hb.1.2]
      · exact ⟨by simp only [size_setCell]; omega, hb.2.of_block (by rw [heap_set5 _ _ _ _ _ _ _ _ _ (by omega), hb'.block b hb.1.2])⟩

theorem TLaid.done {w wr : World} {ks : List Tr} (hL : TLaid w wr ks ks.length) : NewF w wr w.heap.size ∧ RepK (NewF w wr) wr w.heap.size 0 ks := by
  obtain ⟨f, hrow, hf⟩ := hL
  refine ⟨⟨⟨Nat.le_refl _, hrow.lt⟩, fun o => hrow.frozen o⟩, RepK.mk fun i hi => ?_⟩
  obtain ⟨d, g0, g1, g2, g3, g4, hd⟩ := hf i hi hi
  refine ⟨d, ?_, Rep.carry (fun _ _ => rfl) (fun b hb => ⟨⟨by omega, hb.1.2⟩, hb.2⟩) _ _ hd⟩
  simp only [Nat.zero_add, C5.at]
  rw [hrow.cell (i := i * 5) (by omega), hrow.cell (i := i * 5 + 1) (by omega), hrow.cell (i := i * 5 + 2) (by omega), hrow.cell (i := i * 5 + 3) (by omega), hrow.cell (i := i * 5 + 4) (by omega), g0, g1, g2, g3, g4]
  exact ⟨rfl, rfl, rfl, rfl, rfl⟩

set_option maxHeartbeats 400000 in
theorem toTreeS_free (n : Nat) (IH : ToTSaid n) (t : Tr) (hn : tsz t ≤ n) (P : Nat → Prop) (a : Option Addr) (cap : Nat) (w : World) (hP : ∀ b, P b → b < w.heap.size)
    (hlen : t.kids.length ≤ 1048576) (hwt : wK t.kids ≤ 1048576)
    (hc : ∀ i, (hi : i < t.kids.length) → ∃ b o c, a = some ⟨b, o, none⟩ ∧ P b ∧ C5.at w b (o + i * 5) c ∧ Rep P w t.kids[i] c) :
    Calls Tryz.prog 36 #[.slice a t.kids.length cap] w fun e w' => ∃ b, e = .returned (.slice (some ⟨b, 0, none⟩) t.kids.length t.kids.length) ∧ NewF w w' b ∧ RepK (NewF w w') w' b 0 t.kids ∧ Below w.heap.size w w' := by
  generalize hks : t.kids = ks at *
  have HK := hide hks; clear hks
  have HC := hide hc; clear hc
  have HP := hide hP; clear hP
  have HI := hide IH; clear IH
  have HW := hide hwt; clear hwt
  have hmk := run_make_tree ks.length hlen
  go_enter Tryz.func36, Tryz.ntmps36
  go_wp2_with fail
  clear hmk
  go_loopw [4] (fun i wr => ∃ (k : Nat), k ≤ ks.length ∧ i = .int .i64 k ∧ Hid (TLaid w wr ks k) ∧ Below w.heap.size w wr) (fun i _ => ks.length - (intOf i).toNat)
  case atStart =>
    have hrow := World.rowIs_alloc w (madeCells z5 (ks.length * 5)) 39 (fun i => (madeCells z5 (ks.length * 5))[i]?.getD undef) (fun i hi => by simp [hi])
    rw [size_madeCells] at hrow
    exact ⟨0, Nat.zero_le _, rfl, hide ⟨_, hrow, fun j hj => by omega⟩, (Below.refl _ _).alloc (Nat.le_refl _) _⟩
  case round =>
    obtain ⟨k, hk, rfl, HL, hb⟩ := hrel
    by_cases hlt : k < ks.length
    · obtain ⟨b, o, c, rfl, hpb, hcell, hrep⟩ := unhide HC k hlt
      have hcell' := hcell.carry (hb.block b (unhide HP b hpb))
      obtain ⟨c0, c1, c2, c3, c4⟩ := c
      obtain ⟨e0, e1, e2, e3, e4⟩ := hcell'
      simp only at e0 e1 e2 e3 e4
      have HR := hide hrep; clear hrep hcell hpb
      have hmem : ks[k] ∈ t.kids := by rw [unhide HK]; exact List.getElem_mem hlt
      have hsm : tsz ks[k] < n := by have := tsz_kid hmem; omega
      have hwk : wT ks[k] ≤ 1048576 := by have := wK_mem (List.getElem_mem hlt); have := unhide HW; omega
      clear hmem
      go_wp2_with fail
      refine (unhide HI ks[k] hsm P ⟨c0, c1, c2, c3, c4⟩ wr (fun b hb' => Nat.lt_of_lt_of_le (unhide HP b hb') hb.size) (Rep.carry (fun b hb' => hb.block b (unhide HP b hb')) (fun _ h => h) _ _ (unhide HR)) hwk).mono ?_
      rintro e w' ⟨⟨d0, d1, d2, d3, d4⟩, rfl, hr, hb'⟩
      clear e0 e1 e2 e3 e4
      obtain ⟨f, hrow, hf⟩ := HL.out
      have hrow' := hrow.of_block (hb'.block _ hrow.lt)
      have HR' := hide hr; have HB' := hide hb'
      have z0 := hrow'.frozen (k * 5)
      have z1 := hrow'.frozen (k * 5 + 1)
      have z2 := hrow'.frozen (k * 5 + 2)
      have z3 := hrow'.frozen (k * 5 + 3)
      have z4 := hrow'.frozen (k * 5 + 4)
      have y0 := hrow'.cell (i := k * 5) (by omega)
      have y1 := hrow'.cell (i := k * 5 + 1) (by omega)
      have y2 := hrow'.cell (i := k * 5 + 2) (by omega)
      have y3 := hrow'.cell (i := k * 5 + 3) (by omega)
      have y4 := hrow'.cell (i := k * 5 + 4) (by omega)
      obtain ⟨g0, g1, g2, -, -, -, ⟨a3, cap3, g3, -⟩, a4, cap4, g4, -⟩ := hr.open
      simp only at g0 g1 g2 g3 g4
      subst g0 g1 g2 g3 g4
      clear hf hrow hrow' hr hb'
      go_wp2_with fail
      go_roundw
      case rel =>
        have hst := TLaid.step hlt HL.out HB'.out _ HR'.out
        have hb3 := hb.trans (HB'.out.mono hb.size)
        refine ⟨k + 1, by omega, by go_num, hst, ?_⟩
        exact ((((hb3.setCell (Nat.le_refl _) _).setCell (Nat.le_refl _) _).setCell (Nat.le_refl _) _).setCell (Nat.le_refl _) _).setCell (Nat.le_refl _) _
      case measure => simp [intOf]; omega
    · go_wp2_with fail
      go_ret
      obtain rfl : k = ks.length := by omega
      exact ⟨w.heap.size, rfl, HL.out.done.1, HL.out.done.2, hb⟩

set_option maxHeartbeats 400000 in
theorem toTreeF_step (n : Nat) (IH : ToTSaid n) : ToTSaid (n + 1) := by
  intro t hn P c w hP hrep hwt
  obtain ⟨c0, c1, c2, c3, c4⟩ := c
  obtain ⟨e0, e1, e2, hi0, hi1, htx, hns, a, cap, e4, hlen, hks⟩ := hrep.open
  simp only at e0 e1 e2 e4 hns
  subst e0 e1 e2 e4
  have hw : wT t = t.text.size + wS t.names + wK t.kids := by obtain ⟨s, n, tx, ns, ks⟩ := t; rfl
  have hl1 := wS_len t.names
  have hl2 := wK_len t.kids
  have hnl : t.names.length ≤ 1048576 := by omega
  have hkl : t.kids.length ≤ 1048576 := by omega
  have hkw : wK t.kids ≤ 1048576 := by omega
  clear hl1 hl2 hw hwt
  have HP := hide hP; have HK := hide hks; have HN := hide hns; have HI := hide IH; have H0 := hide hi0; have H1 := hide hi1; have HKW := hide hkw
  clear hP hks hns IH hrep hi0 hi1 hkw
  have hbx : ∀ o o2 o3, Below w.heap.size w (((w.alloc o).alloc o2).alloc o3) := fun o o2 o3 => (((Below.refl _ _).alloc (Nat.le_refl _) o).alloc (by simp) o2).alloc (by simp; omega) o3
  have HBX := hide hbx; clear hbx
  go_enter Tryz.func13, Tryz.ntmps13
  go_wp2_with fail
  refine (toStringS_free c3 t.names _ (P := P) (fun b hb => Nat.lt_of_lt_of_le (unhide HP b hb) (unhide HBX _ _ _).size) ((unhide HN).carry (fun b hb => (unhide HBX _ _ _).block b (unhide HP b hb)) (fun _ h => h)) hnl).mono ?_
  rintro e w1 ⟨v', rfl, ⟨a', rfl⟩, hs, hb1⟩
  obtain ⟨q0, q1, q2, hsz1, hb01⟩ := box3 hb1
  have k0 := q0.cell (i := 4) (by omega)
  have f2 := q2.frozen 3
  have k2 := q2.cell (i := 3) (by omega)
  simp only [row5] at k0 k2
  have HS := hide hs; have HB1 := hide hb01; have Q1 := hide q1; have Q2 := hide q2
  clear hs hb1 hb01 q0 q1 q2
  go_wp2_with fail
  have q2 := (unhide Q2).set 3 (.slice a' t.names.length t.names.length)
  have q1 := (unhide Q1).setOther (a := ⟨w.heap.size + 1 + 1, 3, none⟩) (by simp) (.slice a' t.names.length t.names.length)
  have hb2 := (unhide HB1).setCell (p := ⟨w.heap.size + 1 + 1, 3, none⟩) (by simp; omega) (.slice a' t.names.length t.names.length)
  refine (toTreeS_free n (unhide HI) t (by omega) P a cap _ (fun b hb => Nat.lt_of_lt_of_le (unhide HP b hb) hb2.size) hkl (unhide HKW) (fun i hi => ?_)).mono ?_
  · obtain ⟨b, o, c, h1, h2, h3, h4⟩ := unhide HK i hi
    exact ⟨b, o, c, h1, h2, h3.carry (hb2.block b (unhide HP b h2)), Rep.carry (fun b hb => hb2.block b (unhide HP b hb)) (fun _ h => h) _ _ h4⟩
  rintro e w3 ⟨bk, rfl, hbk, hrk, hb3⟩
  have hsz2 : (w1.setCell ⟨w.heap.size + 1 + 1, 3, none⟩ (.slice a' t.names.length t.names.length)).heap.size = w1.heap.size := size_setCell _ _ _
  have p1 := q1.of_block (hb3.block _ (by omega))
  have p2 := q2.of_block (hb3.block _ (by omega))
  have hb03 := hb2.trans (hb3.mono hb2.size)
  have hblk : ∀ b, w.heap.size + 3 ≤ b → b < w1.heap.size → w3.heap[b]? = w1.heap[b]? := fun b h1 h2 => by
    rw [hb3.block b (by rw [hsz2]; exact h2), Below.heap_setCell _ _ _ _ (by simp; omega)]
  have hs3 : StrsAt (fun b => (w.heap.size + 3 ≤ b ∧ b < w1.heap.size) ∧ FreeB w3 b) w3 (.slice a' t.names.length t.names.length) t.names :=
    (unhide HS).carry (fun b hb => hblk b (by have := hb.1.1; simpa using this) hb.1.2) (fun b hb => ⟨⟨by have := hb.1.1; simpa using this, hb.1.2⟩, hb.2.of_block (hblk b (by have := hb.1.1; simpa using this) hb.1.2)⟩)
  have hk3 : RepK (fun b => (w.heap.size + 3 ≤ b ∧ b < w3.heap.size) ∧ FreeB w3 b) w3 bk 0 t.kids :=
    RepK.carry (fun _ _ => rfl) (fun b hb => ⟨⟨by have := hb.1.1; omega, hb.1.2⟩, hb.2⟩) _ _ rfl _ hrk
  have hbk3 : (w.heap.size + 3 ≤ bk ∧ bk < w3.heap.size) ∧ FreeB w3 bk := ⟨⟨by have := hbk.1.1; omega, hbk.1.2⟩, hbk.2⟩
  have hs13 : w1.heap.size ≤ w3.heap.size := by have := hb3.size; omega
  have a0 := p1.cell (i := 0) (by omega); have a1 := p1.cell (i := 1) (by omega); have a2 := p1.cell (i := 2) (by omega); have a3 := p1.cell (i := 3) (by omega); have a4 := p1.cell (i := 4) (by omega)
  have b0 := p2.cell (i := 0) (by omega); have b1 := p2.cell (i := 1) (by omega); have b2 := p2.cell (i := 2) (by omega); have b3 := p2.cell (i := 3) (by omega); have b4 := p2.cell (i := 4) (by omega)
  have fa := p1.frozen; have fb := p2.frozen
  simp [row5] at a0 a1 a2 a3 a4 b0 b1 b2 b3 b4
  clear q1 q2 hb2 hbk hrk hblk hb3 hsz2 p1 p2 k0 k2 f2 Q1 Q2 HB1 HS HN HI HK HP HBX HKW
  have HS3 := hide hs3; have HK3 := hide hk3; have HBK3 := hide hbk3; have HB03 := hide hb03; have HS13 := hide hs13
  clear hs3 hk3 hbk3 hb03 hs13
  go_wp2_with fail
  refine bodyPost_ret (v := .agg #[.int .i64 t.sort, .int .i64 t.num, .string t.text, .slice a' t.names.length t.names.length, .slice (some ⟨bk, 0, none⟩) t.kids.length t.kids.length]) (by simp [results, Tryz.results13, go_sem, a0, a1, a2, a3, a4]) rfl ⟨⟨_, _, _, _, _⟩, rfl, ?_, ?_⟩
  · refine Rep.make (unhide H0) (unhide H1) htx ((unhide HS3).carry (fun b hb => ?_) (fun b hb => ?_)) hlen ?_ (RepK.carry (P := fun b => (w.heap.size + 3 ≤ b ∧ b < w3.heap.size) ∧ FreeB w3 b) (fun b hb => ?_) (fun b hb => ?_) _ _ ?_ _ (unhide HK3))
    · exact heap_set6 _ _ _ _ _ _ _ _ _ _ (by omega) (by omega)
    · have := unhide HS13; exact ⟨⟨by omega, by simp only [size_setCell]; omega⟩, hb.2.of_block (heap_set6 _ _ _ _ _ _ _ _ _ _ (by omega) (by omega))⟩
    · have := (unhide HBK3).1; exact ⟨⟨by omega, by simp only [size_setCell]; omega⟩, (unhide HBK3).2.of_block (heap_set6 _ _ _ _ _ _ _ _ _ _ (by omega) (by omega))⟩
    · exact heap_set6 _ _ _ _ _ _ _ _ _ _ (by omega) (by omega)
    · exact ⟨⟨by omega, by simp only [size_setCell]; omega⟩, hb.2.of_block (heap_set6 _ _ _ _ _ _ _ _ _ _ (by omega) (by omega))⟩
    · have := (unhide HBK3).1; exact heap_set6 _ _ _ _ _ _ _ _ _ _ (by omega) (by omega)
  · exact ((((((unhide HB03).setCell (by simp; omega) _).setCell (by simp) _).setCell (by simp) _).setCell (by simp) _).setCell (by simp) _).setCell (by simp) _

theorem toTreeF_all : ∀ n, ToTSaid n
  | 0 => fun t h => by omega
  | n + 1 => toTreeF_step n (toTreeF_all n)

theorem toTree_free (t : Tr) (P : Nat → Prop) (c : C5) (w : World) (hP : ∀ b, P b → b < w.heap.size) (hrep : Rep P w t c) (hwt : wT t ≤ 1048576) :
    Calls Tryz.prog 13 #[.agg #[c.c0, c.c1, c.c2, c.c3, c.c4]] w fun e w' => ∃ c' : C5, e = .returned (.agg #[c'.c0, c'.c1, c'.c2, c'.c3, c'.c4]) ∧ Rep (NewF w w') w' t c' ∧ Below w.heap.size w w' :=
  toTreeF_all (tsz t + 1) t (by omega) P c w hP hrep hwt
end Go.Proofs.YtcpfelaffclalaaGreatDoor

/- The walks of toKind, toKindS: they make a new copy of a schema, and turn nothing that was there. No conditions but the schema's weight, at most 2^20. -/

namespace Go.Proofs.YtcpfelaffclalaaGreatDoor
open Go Go.RowKit

/-- The three zero cells of a schema. -/
def z3 : Array Value := #[.int .i64 0, .slice none 0 0, .slice none 0 0]

theorem infoKind : (Tryz.prog.info? 30).map (fun i => (i.zero, i.size, i.bytes)) = some (some (.agg z3), 3, 56) := by kernel_rfl

theorem run_make_kind (n : Nat) (h : n ≤ 1048576) (w : World) :
    (Instr.makeSlice 28 (.int .i64 (n : Int)) (.int .i64 (n : Int))).run Tryz.prog w = .ok (.slice (some ⟨w.heap.size, 0, none⟩) n n) (w.alloc (.cells (madeCells z3 (n * 3)) 30)) := by
  obtain ⟨i, hi, he⟩ : ∃ i, Tryz.prog.info? 30 = some i ∧ (i.zero, i.size, i.bytes) = (some (.agg z3), 3, 56) := by
    have := infoKind
    cases h : Tryz.prog.info? 30 with
    | none => rw [h] at this; simp at this
    | some i => rw [h] at this; exact ⟨i, rfl, by simpa using this⟩
  simp only [Prod.mk.injEq] at he
  obtain ⟨e1, e2, e3⟩ := he
  have := run_make (P := Tryz.prog) w 28 30 i (.agg z3) Tryz.underlying28 hi e1 .i64 .i64 n n (by omega) (by omega) (by rw [e3]; omega) (by omega)
  rw [this, e2]
  simp [Value.cells]

theorem heap_set3 (w : World) (b o : Nat) (c0 c1 c2 : Value) (k : Nat) (h : k ≠ b) :
    (((w.setCell ⟨b, o, none⟩ c0).setCell ⟨b, o + 1, none⟩ c1).setCell ⟨b, o + 2, none⟩ c2).heap[k]? = w.heap[k]? := by
  rw [Below.heap_setCell _ _ _ _ h, Below.heap_setCell _ _ _ _ h, Below.heap_setCell _ _ _ _ h]

theorem heap_set4 (w : World) (b b2 : Nat) (v c0 c1 c2 : Value) (k : Nat) (h : k ≠ b) (h2 : k ≠ b2) :
    ((((w.setCell ⟨b2, 2, none⟩ v).setCell ⟨b, 0, none⟩ c0).setCell ⟨b, 1, none⟩ c1).setCell ⟨b, 2, none⟩ c2).heap[k]? = w.heap[k]? := by
  rw [Below.heap_setCell _ _ _ _ h, Below.heap_setCell _ _ _ _ h, Below.heap_setCell _ _ _ _ h, Below.heap_setCell _ _ _ _ h2]

end Go.Proofs.YtcpfelaffclalaaGreatDoor
