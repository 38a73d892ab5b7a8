/- The walk of the program's record, which takes a record off a cursor. For rows of at most 2^20 bytes. -/
import Derived.Test.YtkmjhcidafkflaaPart23
import Derived.Test.YtkmjhcidafkflaaPart15
import Derived.Test.YtkmjhcidafkflaaPart25
namespace Go.Proofs.Ytkmjhcidafkflaa
open Go Go.RowKit

def rw2 (x y : Value) : Nat → Value
  | 0 => x
  | _ => y
/-- A record has been taken, or none stood there. -/
def RecEnd (w w' : World) (e : Ending) (r : ByteArray) (R : Nat) : Prop :=
  ∃ (q : Int) (d : ByteArray) (ok : Bool) (r' : ByteArray), e = .returned (.tuple #[.agg #[.int .i64 q, .string d], .bool ok]) ∧ Cur w' R r' ∧ ButC R w w' ∧ (if whB r 0 then (q = psB r 0 ∧ d = r.extract 5 (5 + (szB r 0).toNat) ∧ ok = true ∧ r' = r.extract (5 + (szB r 0).toNat) r.size) else (ok = false ∧ r' = r))
theorem RecEnd.no {w w' : World} {r : ByteArray} {R : Nat} (q : Int) (d : ByteArray) (h : ¬ whB r 0) (hc : Cur w' R r) (hb : ButC R w w') : RecEnd w w' (.returned (.tuple #[.agg #[.int .i64 q, .string d], .bool false])) r R :=
  ⟨q, d, false, r, rfl, hc, hb, by rw [if_neg h]; exact ⟨rfl, rfl⟩⟩

set_option maxRecDepth 100000 in
set_option maxHeartbeats 3200000 in
theorem record_any (r : ByteArray) (hr : r.size ≤ 1048576) (R : Nat) (w : World) (hc : Cur w R r) :
    Calls Try.prog 24 #[.pointer (some ⟨R, 0, none⟩)] w fun e w' => RecEnd w w' e r R := by
  have hR := World.rowIs.lt hc
  have c0 := fun o => World.rowIs.cell (World.rowIs.alloc hc o) (i := 0) (by omega)
  have HC := hide hc
  have HB0 := hide (fun o => (show Below w.heap.size w (w.alloc o) from (Below.refl _ _).alloc (Nat.le_refl _) o))
  clear hc
  go_enter Try.func24, Try.ntmps24
  by_cases h5 : r.size < 5
  · have HNW := hide (show ¬ whB r 0 from fun h => by have := h.1; omega)
    have HCa := hide (fun o => Cur.on (unhide HC) (unhide HB0 o))
    go_wp2_with fail
    go_returns
    exact RecEnd.no _ _ (unhide HNW) (unhide HCa _) (ButC.of_below (unhide HB0 _))
  have HW0 := hide (fun o o' => (show Below w.heap.size w ((w.alloc o).alloc o') from ((Below.refl _ _).alloc (Nat.le_refl _) o).alloc (by simp) o'))
  have HT2 := hide (fun o' => World.rowIs.alloc (World.rowIs_alloc w #[.int .i64 0, .string ⟨#[]⟩] 29 (rw2 (.int .i64 0) (.string ⟨#[]⟩)) (fun i hi => by
    have hi2 : i < 2 := by simpa using hi
    rcases (show i = 0 ∨ i = 1 by omega) with rfl | rfl <;> rfl)) o')
  have HTK := hide (fun o => taken2_any r (by omega) (w.heap.size + 1) ((w.alloc o).alloc (.cells #[.string r] 53)) (by
    have := Cur.alloc (w.alloc o) r
    rw [World.size_alloc] at this
    exact this))
  go_wp2_with fail
  refine (unhide HTK _).mono ?_
  rintro e w1 ⟨rfl, hc1, hb1⟩
  have hs1 : w.heap.size + 2 ≤ w1.heap.size := by have := hb1.size; simpa using this
  have HR1 := hide (fun b (hb : b < w.heap.size) => (hb1.block b (by simp; omega) (by omega)).trans ((unhide HW0 _ _).block b hb))
  have HE1 := hide (show w1.os = w.os ∧ w1.tape = w.tape ∧ w1.output = w.output from ⟨hb1.os, hb1.tape, hb1.output⟩)
  have T1 := hide (World.rowIs.of_block (unhide HT2 _) (hb1.block w.heap.size (by simp; omega) (by omega)))
  have HT3 := hide (taken3_any (r.extract 2 r.size) (by rw [drp_size]; omega) (w.heap.size + 1) w1 hc1)
  clear hb1 hc1 HTK HT2 HW0 HB0 c0
  go_wp2_with fail
  refine (unhide HT3).mono ?_
  rintro e w2 ⟨rfl, hc2, hb2⟩
  rw [drp_drp] at hc2
  have hs2 := hb2.size
  have HR2 := hide (fun b (hb : b < w.heap.size) => (hb2.block b (by omega) (by omega)).trans (unhide HR1 b hb))
  have HE2 := hide (show w2.os = w.os ∧ w2.tape = w.tape ∧ w2.output = w.output from ⟨hb2.os.trans (unhide HE1).1, hb2.tape.trans (unhide HE1).2.1, hb2.output.trans (unhide HE1).2.2⟩)
  have T2 := hide (World.rowIs.of_block (unhide T1) (hb2.block w.heap.size (by omega) (by omega)))
  have HP3 := hide (show pB3 (r.extract 2 r.size) 0 = psB r 0 by unfold pB3 psB; rw [byB_drp, byB_drp, byB_drp]; simp only [Nat.zero_add, Nat.add_zero, Nat.reduceAdd]; omega)
  have HSZ := hide (szB_nn r 0)
  have C2 := hide hc2
  clear hb2 hc2 HT3 T1 HE1 HR1
  rw [unhide HP3]
  have HWH := hide (show whB r 0 ↔ frOk (psB r 0) (szB r 0).toNat = true ∧ 5 + (szB r 0).toNat ≤ r.size by
    have := unhide HSZ
    unfold whB frOk
    rw [decide_eq_true_eq]
    constructor
    · rintro ⟨h1, h2, h3, h4⟩; exact ⟨⟨h3.1, h3.2, by omega⟩, by omega⟩
    · rintro ⟨⟨h1, h2, h3⟩, h4⟩; exact ⟨by omega, by omega, ⟨h1, h2⟩, by omega⟩)
  obtain ⟨zn, hzn⟩ : ∃ zn : Nat, szB r 0 = zn := ⟨(szB r 0).toNat, by have := unhide HSZ; omega⟩
  have HEND := hide (fun (e : Ending) (w' : World) (d : ByteArray) (h : whB r 0) (he : e = .returned (.tuple #[.agg #[.int .i64 (psB r 0), .string d], .bool true])) (hd : d = r.extract 5 (5 + (szB r 0).toNat)) (hc : Cur w' R (r.extract (5 + (szB r 0).toNat) r.size)) (hb : ButC R w w') => (show RecEnd w w' e r R from ⟨_, d, true, _, he, hc, hb, by rw [if_pos h]; exact ⟨rfl, hd, rfl, rfl⟩⟩))
  have hz' : (szB r 0).toNat = zn := by rw [hzn]; rfl
  rw [hz'] at HWH HEND
  rw [hzn]
  have HFIT := hide (recordFits_any (psB r 0) zn w2)
  clear hzn hz' HSZ HP3
  generalize psB r 0 = q at *
  go_wp2_with fail
  refine (unhide HFIT).mono ?_
  rintro e w3 ⟨rfl, hb3⟩
  have hs3 := hb3.size
  have HR3 := hide (fun b (hb : b < w.heap.size) => (hb3.block b (by omega)).trans (unhide HR2 b hb))
  have HE3 := hide (show w3.os = w.os ∧ w3.tape = w.tape ∧ w3.output = w.output from ⟨hb3.os.trans (unhide HE2).1, hb3.tape.trans (unhide HE2).2.1, hb3.output.trans (unhide HE2).2.2⟩)
  have t3 := World.rowIs.of_block (unhide T2) (hb3.block w.heap.size (by omega))
  have C3 := hide (Cur.on (unhide C2) hb3)
  have d0 := World.rowIs.cell (unhide C3) (i := 0) (by omega)
  have z5 := drp_size r 5
  have k0 := t3.cell (i := 0) (by simp); have k1 := t3.cell (i := 1) (by simp)
  have f0 := t3.frozen 0; have f1 := t3.frozen 1
  simp only [rw2] at k0 k1
  have T3 := hide t3
  have HBX := hide (fun (u v : Value) => (show ButC R w ((w3.setCell ⟨w.heap.size, 0, none⟩ u).setCell ⟨w.heap.size, 1, none⟩ v) from ⟨(unhide HE3).1, (unhide HE3).2.1, (unhide HE3).2.2, by simp; omega, fun b hb _ => by rw [Below.heap_setCell _ _ _ _ (by simp; omega), Below.heap_setCell _ _ _ _ (by simp; omega)]; exact unhide HR3 b hb⟩))
  have HCX := hide (fun (u v : Value) => (show Cur ((w3.setCell ⟨w.heap.size, 0, none⟩ u).setCell ⟨w.heap.size, 1, none⟩ v) R r from World.rowIs.of_block (unhide HC) (by rw [Below.heap_setCell _ _ _ _ (by simp; omega), Below.heap_setCell _ _ _ _ (by simp; omega)]; exact unhide HR3 R hR)))
  clear hb3 t3 HFIT C2 T2 HE2 HR2
  generalize hrest : r.extract 5 r.size = rest at *
  have HREST := hide hrest
  clear hrest
  by_cases hfit : frOk q zn = true
  case neg =>
    have hf' : frOk q zn = false := by simpa using hfit
    have HNW := hide (show ¬ whB r 0 from fun h => hfit ((unhide HWH).1 h).1)
    rw [hf']
    clear hfit hf'
    go_wp2_with fail
    exact bodyPost_ret (v := .tuple #[.agg #[.int .i64 0, .string ⟨#[]⟩], .bool false]) (by simp [results, Try.results24, go_sem, k0, k1]) rfl (RecEnd.no _ _ (unhide HNW) (unhide HCX _ _) (unhide HBX _ _))
  rw [hfit]
  by_cases hroom : 5 + zn ≤ r.size
  case neg =>
    have HNW := hide (show ¬ whB r 0 from fun h => hroom ((unhide HWH).1 h).2)
    go_wp2_with fail
    exact bodyPost_ret (v := .tuple #[.agg #[.int .i64 0, .string ⟨#[]⟩], .bool false]) (by simp [results, Try.results24, go_sem, k0, k1]) rfl (RecEnd.no _ _ (unhide HNW) (unhide HCX _ _) (unhide HBX _ _))
  have HWHY := hide ((unhide HWH).2 ⟨hfit, hroom⟩)
  have HTA := hide (take_any rest zn (by omega) (w.heap.size + 1) w3 (unhide C3))
  clear hfit HWH HBX HCX k0 k1 f0 f1
  go_wp2_with fail
  refine (unhide HTA).mono ?_
  rintro e w4 ⟨rfl, hc4, hb4⟩
  have hs4 := hb4.size
  have HR4 := hide (fun b (hb : b < w.heap.size) => (hb4.block b (by omega) (by omega)).trans (unhide HR3 b hb))
  have HE4 := hide (show w4.os = w.os ∧ w4.tape = w.tape ∧ w4.output = w.output from ⟨hb4.os.trans (unhide HE3).1, hb4.tape.trans (unhide HE3).2.1, hb4.output.trans (unhide HE3).2.2⟩)
  have T4 := hide (World.rowIs.of_block (unhide T3) (hb4.block w.heap.size (by omega) (by omega)))
  have HCL := hide (clone_any (rest.extract 0 zn) w4 (by rw [ByteArray.size_extract]; omega))
  have C4 := hide hc4
  clear hb4 hc4 HTA C3 T3 HE3 HR3 d0
  generalize hdd : rest.extract 0 zn = dd at *
  generalize hre : rest.extract zn rest.size = re at *
  have HDD := hide hdd; have HRE := hide hre
  clear hdd hre
  go_wp2_with fail
  refine (unhide HCL).mono ?_
  rintro e w5 ⟨rfl, hb5⟩
  have hs5 := hb5.size
  have HR5 := hide (fun b (hb : b < w.heap.size) => (hb5.block b (by omega)).trans (unhide HR4 b hb))
  have HE5 := hide (show w5.os = w.os ∧ w5.tape = w.tape ∧ w5.output = w.output from ⟨hb5.os.trans (unhide HE4).1, hb5.tape.trans (unhide HE4).2.1, hb5.output.trans (unhide HE4).2.2⟩)
  have t5 := World.rowIs.of_block (unhide T4) (hb5.block w.heap.size (by omega))
  have c5 := Cur.on (unhide C4) hb5
  have r5 : Cur w5 R r := World.rowIs.of_block (unhide HC) (unhide HR5 R hR)
  have a0 := fun o => World.rowIs.cell (World.rowIs.alloc c5 o) (i := 0) (by omega)
  have b0 := fun o => World.rowIs.cell (World.rowIs.alloc r5 o) (i := 0) (by omega)
  have bf := fun o => World.rowIs.frozen (World.rowIs.alloc r5 o) 0
  have k0 := fun o => (t5.alloc o).cell (i := 0) (by simp); have k1 := fun o => (t5.alloc o).cell (i := 1) (by simp)
  have f0 := fun o => (t5.alloc o).frozen 0; have f1 := fun o => (t5.alloc o).frozen 1
  simp only [rw2] at k0 k1
  have HFIN := hide (fun (o : Obj) (u v : Value) => (show ButC R w ((((w5.alloc o).setCell ⟨R, 0, none⟩ (.string re)).setCell ⟨w.heap.size, 0, none⟩ u).setCell ⟨w.heap.size, 1, none⟩ v) from ⟨(unhide HE5).1, (unhide HE5).2.1, (unhide HE5).2.2, by simp; omega, fun b hb hne => by
    rw [Below.heap_setCell _ _ _ _ (by simp; omega), Below.heap_setCell _ _ _ _ (by simp; omega), Below.heap_setCell _ _ _ _ hne, Below.heap_alloc _ _ _ (by omega)]; exact unhide HR5 b hb⟩))
  have HCUR := hide (fun (o : Obj) (u v : Value) => (show Cur ((((w5.alloc o).setCell ⟨R, 0, none⟩ (.string re)).setCell ⟨w.heap.size, 0, none⟩ u).setCell ⟨w.heap.size, 1, none⟩ v) R re from World.rowIs.of_block (w := (w5.alloc o).setCell ⟨R, 0, none⟩ (.string re)) ((World.rowIs.set (World.rowIs.alloc r5 o) 0 _).congr fun i hi => by
    have h0 : i = 0 := by omega
    subst h0; rfl) (by rw [Below.heap_setCell _ _ _ _ (by simp; omega), Below.heap_setCell _ _ _ _ (by simp; omega)])))
  clear hb5 t5 c5 r5 HCL C4 T4 HE4 HR4
  go_wp2_with fail
  refine bodyPost_ret (v := .tuple #[.agg #[.int .i64 q, .string dd], .bool true]) (by simp [results, Try.results24, go_sem, k0, k1]) rfl (unhide HEND _ _ dd (unhide HWHY) rfl ?_ ?_ (unhide HFIN _ _ _))
  · rw [← unhide HDD, ← unhide HREST, drp_ext]
  · have := unhide HCUR (.cells #[.int .i64 q, .string dd] 29) (.int .i64 q) (.string dd)
    rw [← unhide HRE, ← unhide HREST, drp_drp] at this
    rw [← unhide HRE, ← unhide HREST, drp_drp]
    exact this
end Go.Proofs.Ytkmjhcidafkflaa
