/- The walk of the laws' own ttKind: of two schemas that lie in memory as one and the same it answers true, and turns nothing that was there. No conditions. -/
import Derived.Test.YthkjhmcbmakkdaaDoorRows
import Derived.Test.YthkjhmcbmakkdaaDoorPart01
import Derived.Test.YthkjhmcbmakkdaaDoorPart03
import Derived.Deep.RegionWith
import Derived.Deep.QuietTactic
import Derived.BigQuiet
import Derived.Test.YthkjhmcbmakkdaaDoorPart06
import Derived.Test.YthkjhmcbmakkdaaDoorPart00
namespace Go.Proofs.YthkjhmcbmakkdaaDoor
open Go Go.RowKit

def TkSaid (n : Nat) : Prop := ∀ (t : Kd), ksz t < n → ∀ (P Q : Nat → Prop) (c d : C3) (w : World), (∀ b, P b → b < w.heap.size) → (∀ b, Q b → b < w.heap.size) → KRep P w t c → KRep Q w t d →
    Calls Tryd.prog 10 #[.agg #[c.c0, c.c1, c.c2], .agg #[d.c0, d.c1, d.c2]] w fun e w' => e = .returned (.bool true) ∧ Below w.heap.size w w'

/-- The two boxes. -/
structure TK (w : World) (c d : C3) (wr : World) : Prop where
  below : Below w.heap.size w wr
  a : wr.rowIs w.heap.size 26 3 (row3 c.c0 c.c1 c.c2)
  b : wr.rowIs (w.heap.size + 1) 26 3 (row3 d.c0 d.c1 d.c2)
theorem TK.on {w : World} {c d : C3} {wr w' : World} (h : TK w c d wr) (hb : Below wr.heap.size wr w') : TK w c d w' :=
  ⟨h.below.trans (hb.mono h.below.size), h.a.of_block (hb.block _ h.a.lt), h.b.of_block (hb.block _ h.b.lt)⟩
theorem TK.start (w : World) (c0 c1 c2 d0 d1 d2 : Value) : TK w ⟨c0, c1, c2⟩ ⟨d0, d1, d2⟩ ((w.alloc (.cells #[c0, c1, c2] 26)).alloc (.cells #[d0, d1, d2] 26)) := by
  refine ⟨((Below.refl _ _).alloc (Nat.le_refl _) _).alloc (by simp) _, (row3_alloc w c0 c1 c2 26).alloc _, ?_⟩
  have := row3_alloc (w.alloc (.cells #[c0, c1, c2] 26)) d0 d1 d2 26
  rw [World.size_alloc] at this
  exact this

set_option maxRecDepth 100000 in
set_option maxHeartbeats 3200000 in
theorem ttKind_step (n : Nat) (IH : TkSaid n) : TkSaid (n + 1) := by
  intro t hn P Q c d w hP hQ hrep hrep2
  obtain ⟨c0, c1, c2⟩ := c
  obtain ⟨d0, d1, d2⟩ := d
  obtain ⟨e0, -, hns, a4, cap4, e4, hlen, hks⟩ := hrep.open
  obtain ⟨g0, -, hns2, b4, dap4, g4, -, hks2⟩ := hrep2.open
  simp only at e0 e4 hns g0 g4 hns2
  obtain ⟨a3, cap3, e3, hnl, hnc⟩ := hns
  obtain ⟨b3, dap3, g3, -, hnc2⟩ := hns2
  subst e0 e3 e4 g0 g3 g4
  have htt := TK.start w (.int .i64 t.sort) (.slice a3 t.names.length cap3) (.slice a4 t.kids.length cap4) (.int .i64 t.sort) (.slice b3 t.names.length dap3) (.slice b4 t.kids.length dap4)
  have HN := hide hnc; have HN2 := hide hnc2; have HK := hide hks; have HK2 := hide hks2; have HP := hide hP; have HQ := hide hQ; have HI := hide IH
  have hkid : ∀ i, (hi : i < t.kids.length) → ksz t.kids[i] < n := fun i hi => by have := ksz_kid (List.getElem_mem hi); omega
  have HKS := hide hkid
  clear hnc hnc2 hks hks2 hP hQ IH hrep hrep2 hkid hn
  generalize t.names = ns at *
  generalize t.kids = ks at *
  generalize t.sort = s0 at *
  have q0 := htt.a.cell (i := 0) (by omega); have q1 := htt.a.cell (i := 1) (by omega); have q2 := htt.a.cell (i := 2) (by omega)
  have r0 := htt.b.cell (i := 0) (by omega); have r1 := htt.b.cell (i := 1) (by omega); have r2 := htt.b.cell (i := 2) (by omega)
  simp only [row3] at q0 q1 q2 r0 r1 r2
  have HT := hide htt
  clear htt
  go_enter Tryd.func10, Tryd.ntmps10
  go_wp2_with fail
  clear q0 q1 q2 r0 r1 r2
  go_loopw [5] (fun i wr => ∃ (k : Nat), k ≤ ns.length ∧ i = .int .i64 k ∧ Hid (TK w ⟨.int .i64 s0, .slice a3 ns.length cap3, .slice a4 ks.length cap4⟩ ⟨.int .i64 s0, .slice b3 ns.length dap3, .slice b4 ks.length dap4⟩ wr)) (fun i _ => ns.length - (intOf i).toNat)
  case atStart => exact ⟨0, Nat.zero_le _, rfl, HT⟩
  case round =>
    clear HT
    obtain ⟨k, hk, rfl, HT⟩ := hrel
    have q3 := HT.out.a.cell (i := 1) (by omega); have r3 := HT.out.b.cell (i := 1) (by omega)
    simp only [row3] at q3 r3
    by_cases hlt : k < ns.length
    · obtain ⟨x, o, rfl, hpb, hcell, -⟩ := unhide HN k hlt
      obtain ⟨x2, o2, rfl, hpb2, hcell2, -⟩ := unhide HN2 k hlt
      have e1 : wr.cell? ⟨x, o + k, none⟩ = some (.string ns[k]) := by rw [HT.out.below.cell (unhide HP x hpb)]; exact hcell
      have e2 : wr.cell? ⟨x2, o2 + k, none⟩ = some (.string ns[k]) := by rw [HT.out.below.cell (unhide HQ x2 hpb2)]; exact hcell2
      have HTN := hide (fun m => HT.out.on (show Below wr.heap.size wr (wr.drewN m) from ⟨rfl, rfl, rfl, Nat.le_refl _, fun _ _ => rfl⟩))
      have hix : (k : Int) < (ns.length : Int) := by omega
      clear hcell hcell2 hpb hpb2 HT
      go_wp2_with fail
      go_quiet (fail)
      go_wp2_with fail
      go_roundw
      case rel => exact ⟨k + 1, by omega, by go_num, unhide HTN _⟩
      case measure => simp [intOf]; omega
    · go_wp2_with fail
      go_loopw [6] (fun i wr => ∃ (k : Nat), k ≤ ks.length ∧ i = .int .i64 k ∧ Hid (TK w ⟨.int .i64 s0, .slice a3 ns.length cap3, .slice a4 ks.length cap4⟩ ⟨.int .i64 s0, .slice b3 ns.length dap3, .slice b4 ks.length dap4⟩ wr)) (fun i _ => ks.length - (intOf i).toNat)
      case atStart => exact ⟨0, Nat.zero_le _, rfl, HT⟩
      case round =>
        clear HT q3 r3
        obtain ⟨k, hk, rfl, HT⟩ := hrel
        have q4 := HT.out.a.cell (i := 2) (by omega); have r4 := HT.out.b.cell (i := 2) (by omega)
        simp only [row3] at q4 r4
        by_cases hlt : k < ks.length
        · obtain ⟨x, o, c, rfl, hpb, hcell, hrep⟩ := unhide HK k hlt
          obtain ⟨x2, o2, d, rfl, hpb2, hcell2, hrep2⟩ := unhide HK2 k hlt
          have hcell' := hcell.carry (HT.out.below.block x (unhide HP x hpb))
          have hcell2' := hcell2.carry (HT.out.below.block x2 (unhide HQ x2 hpb2))
          obtain ⟨c0, c1, c2⟩ := c
          obtain ⟨d0, d1, d2⟩ := d
          obtain ⟨e0, e1, e2⟩ := hcell'
          obtain ⟨g0, g1, g2⟩ := hcell2'
          simp only at e0 e1 e2 g0 g1 g2
          have hbd := HT.out.below.drew
          have hcall := unhide HI ks[k] (unhide HKS k hlt) P Q ⟨c0, c1, c2⟩ ⟨d0, d1, d2⟩ wr.drew (fun b hb' => Nat.lt_of_lt_of_le (unhide HP b hb') hbd.size) (fun b hb' => Nat.lt_of_lt_of_le (unhide HQ b hb') hbd.size) (KRep.carry (w' := wr.drew) (fun b hb' => hbd.block b (unhide HP b hb')) (fun _ h => h) _ _ hrep) (KRep.carry (w' := wr.drew) (fun b hb' => hbd.block b (unhide HQ b hb')) (fun _ h => h) _ _ hrep2)
          have HCALL := hide hcall
          have hix : (k : Int) < (ks.length : Int) := by omega
          clear hrep hcell hpb hrep2 hcell2 hpb2 hcall hbd
          go_wp2_with fail
          go_region_with (go_at_call 10; refine (unhide HCALL).mono ?_; rintro e w' ⟨rfl, hb'⟩)
          all_goals
            have HT2 := hide (HT.out.on ((Below.refl _ wr).drew.trans hb'))
            go_wp2_with fail
            go_roundw
            case rel => exact ⟨k + 1, by omega, by go_num, HT2⟩
            case measure => simp [intOf]; omega
        · go_wp2_with fail
          go_ret
          exact ⟨rfl, HT.out.below⟩

theorem ttKind_all : ∀ n, TkSaid n
  | 0 => fun t h => by omega
  | n + 1 => ttKind_step n (ttKind_all n)
theorem ttKind_any (t : Kd) (P Q : Nat → Prop) (c d : C3) (w : World) (hP : ∀ b, P b → b < w.heap.size) (hQ : ∀ b, Q b → b < w.heap.size) (h1 : KRep P w t c) (h2 : KRep Q w t d) :
    Calls Tryd.prog 10 #[.agg #[c.c0, c.c1, c.c2], .agg #[d.c0, d.c1, d.c2]] w fun e w' => e = .returned (.bool true) ∧ Below w.heap.size w w' :=
  ttKind_all (ksz t + 1) t (by omega) P Q c d w hP hQ h1 h2
end Go.Proofs.YthkjhmcbmakkdaaDoor

/- The walks of the specification's reader, the small ones: look, eat, name, text, num. For texts of at most 2^20 bytes. -/

namespace Go.Proofs.YthkjhmcbmakkdaaDoor
open Go Go.RowKit

/-- A reader of the specification lies in block R. -/
def Rdr (w : World) (R : Nat) (s : ByteArray) (at' : Nat) (bad : Bool) : Prop := w.rowIs R 60 3 (row3 (.string s) (.int .i64 at') (.bool bad))

theorem Rdr.cells {w : World} {R : Nat} {s : ByteArray} {at' : Nat} {bad : Bool} (h : Rdr w R s at' bad) :
    w.cell? ⟨R, 0, none⟩ = some (.string s) ∧ w.cell? ⟨R, 1, none⟩ = some (.int .i64 at') ∧ w.cell? ⟨R, 2, none⟩ = some (.bool bad) ∧ w.frozen? ⟨R, 1, none⟩ = false ∧ w.frozen? ⟨R, 2, none⟩ = false :=
  ⟨World.rowIs.cell h (by omega), World.rowIs.cell h (by omega), World.rowIs.cell h (by omega), World.rowIs.frozen h 1, World.rowIs.frozen h 2⟩
theorem Rdr.lt {w : World} {R : Nat} {s : ByteArray} {at' : Nat} {bad : Bool} (h : Rdr w R s at' bad) : R < w.heap.size := World.rowIs.lt h
theorem Rdr.below {w w' : World} {R : Nat} {s : ByteArray} {at' : Nat} {bad : Bool} (h : Rdr w R s at' bad) (hb : Below w.heap.size w w') : Rdr w' R s at' bad := World.rowIs.of_block h (hb.block R h.lt)
theorem Rdr.set1 {w : World} {R : Nat} {s : ByteArray} {at' : Nat} {bad : Bool} (h : Rdr w R s at' bad) (a : Nat) : Rdr (w.setCell ⟨R, 1, none⟩ (.int .i64 a)) R s a bad :=
  (World.rowIs.set h 1 _).congr fun i hi => by
    match i, hi with
    | 0, _ => rfl
    | 1, _ => rfl
    | 2, _ => rfl
theorem Rdr.set2 {w : World} {R : Nat} {s : ByteArray} {at' : Nat} {bad : Bool} (h : Rdr w R s at' bad) (b : Bool) : Rdr (w.setCell ⟨R, 2, none⟩ (.bool b)) R s at' b :=
  (World.rowIs.set h 2 _).congr fun i hi => by
    match i, hi with
    | 0, _ => rfl
    | 1, _ => rfl
    | 2, _ => rfl
theorem Rdr.drew {w : World} {R : Nat} {s : ByteArray} {at' : Nat} {bad : Bool} (h : Rdr w R s at' bad) : Rdr w.drew R s at' bad := h

/-- The byte at a place, 0 behind the end. -/
def bv (s : ByteArray) (i : Nat) : Nat := if h : i < s.size then s[i].toNat else 0

/-- What is still to be read. -/
def lf (s : ByteArray) (i : Nat) : List UInt8 := s.data.toList.drop i

theorem lf_cons {s : ByteArray} {i : Nat} (h : i < s.size) : lf s i = s[i] :: lf s (i + 1) := by
  unfold lf
  rw [List.drop_eq_getElem_cons (by simpa using h)]
  rfl
theorem lf_nil {s : ByteArray} {i : Nat} (h : s.size ≤ i) : lf s i = [] := by
  unfold lf; exact List.drop_eq_nil_of_le (by simpa using h)
theorem lf_len (s : ByteArray) (i : Nat) : (lf s i).length = s.size - i := by unfold lf; rw [List.length_drop]; rfl
theorem bv_head (s : ByteArray) (i : Nat) : ∀ c : UInt8, c ≠ 0 → ((lf s i).head? = some c ↔ bv s i = c.toNat) := by
  intro c hc
  unfold bv
  by_cases h : i < s.size
  · rw [lf_cons h, dif_pos h]
    simp only [List.head?_cons, Option.some.injEq]
    constructor
    · intro e; rw [e]
    · intro e; exact UInt8.toNat_inj.1 e
  · rw [lf_nil (by omega), dif_neg h]
    constructor
    · intro e; simp at e
    · intro e; exfalso; exact hc (UInt8.toNat_inj.1 e.symm)

theorem Rdr.drewN {w : World} {R : Nat} {s : ByteArray} {at' : Nat} {bad : Bool} (h : Rdr w R s at' bad) (n : Nat) : Rdr (w.drewN n) R s at' bad := h

set_option maxHeartbeats 400000 in
theorem look_any (w : World) (R : Nat) (s : ByteArray) (at' : Nat) (bad : Bool) (h : Rdr w R s at' bad) :
    Calls Tryd.prog 56 #[.pointer (some ⟨R, 0, none⟩)] w fun e w' => e = .returned (.int .u8 (bv s at')) ∧ ∃ m, w' = w.drewN m := by
  obtain ⟨c0, c1, c2, f1, f2⟩ := h.cells
  clear h
  by_cases hlt : at' < s.size
  · have hbv : bv s at' = s[at'].toNat := by unfold bv; rw [dif_pos hlt]
    rw [hbv]
    clear hbv
    go_enter Tryd.func56, Tryd.ntmps56
    go_wp2_with fail
    go_quiet (fail)
    go_wp2_with fail
    go_quiet (fail)
    go_wp2_with fail
    go_ret
    exact ⟨rfl, _, by rw [World.drewN_drewN]⟩
  · have hbv : bv s at' = 0 := by unfold bv; rw [dif_neg hlt]
    rw [hbv]
    clear hbv
    go_enter Tryd.func56, Tryd.ntmps56
    go_wp2_with fail
    go_quiet (fail)
    go_wp2_with fail
    go_ret
    exact ⟨rfl, _, rfl⟩

theorem toList_loop (s : ByteArray) (n : Nat) : ∀ (i : Nat) (r : List UInt8), s.size - i = n → ByteArray.toList.loop s i r = r.reverse ++ s.data.toList.drop i := by
  induction n with
  | zero =>
    intro i r h
    unfold ByteArray.toList.loop
    rw [if_neg (by omega), List.drop_eq_nil_of_le (by simp only [Array.length_toList]; show s.size ≤ i; omega), List.append_nil]
  | succ n ih =>
    intro i r h
    unfold ByteArray.toList.loop
    have hi : i < s.size := by omega
    have e : s.get! i = s.data.toList[i]'(by simpa using hi) := by
      obtain ⟨d⟩ := s
      exact getElem!_pos d i hi
    have hdrop : s.data.toList.drop i = s.data.toList[i]'(by simpa using hi) :: s.data.toList.drop (i + 1) := List.drop_eq_getElem_cons (by simpa using hi)
    rw [if_pos hi, ih (i + 1) _ (by omega), hdrop, e, List.reverse_cons, List.append_assoc]
    rfl
theorem toList_data (s : ByteArray) : s.toList = s.data.toList := by
  have := toList_loop s s.size 0 [] (by omega)
  rw [List.drop_zero] at this
  exact this
theorem toList_beq (a b : ByteArray) : (a.toList == b.toList) = decide (a = b) := by
  rw [toList_data, toList_data, Bool.eq_iff_iff]
  simp only [beq_iff_eq, decide_eq_true_eq]
  constructor
  · intro h; exact ByteArray.ext (Array.toList_inj.1 h)
  · intro h; rw [h]

/-- A word stands at a place. -/
def pre (wd : ByteArray) (s : ByteArray) (i : Nat) : Bool := wd.data.toList.isPrefixOf (lf s i)

theorem pre_iff {wd s : ByteArray} {i : Nat} (h0 : 0 < wd.size) : pre wd s i = true ↔ (i + wd.size ≤ s.size ∧ s.extract i (i + wd.size) = wd) := by
  unfold pre
  rw [List.isPrefixOf_iff_prefix, List.prefix_iff_eq_take]
  have hl : wd.data.toList.length = wd.size := rfl
  have he : (s.extract i (i + wd.size)).data.toList = (lf s i).take wd.size := by
    unfold lf
    simp [List.take_drop]
  rw [hl]
  constructor
  · intro h
    have h2 := congrArg List.length h
    rw [List.length_take, lf_len, hl] at h2
    refine ⟨by omega, ?_⟩
    apply ByteArray.ext
    apply Array.toList_inj.1
    rw [he, ← h]
  · rintro ⟨h1, h2⟩
    rw [← he, h2]

theorem lf_after {wd s : ByteArray} {i : Nat} : lf s (i + wd.size) = (lf s i).drop wd.size := by
  unfold lf; rw [List.drop_drop]

theorem but_drewN {B : Nat} {w w' : World} (h : But B w w') (n : Nat) : But B w (w'.drewN n) := ⟨h.os, h.tape, h.output, h.size, h.block⟩

set_option maxHeartbeats 800000 in
theorem eat_yes (w : World) (R : Nat) (s wd : ByteArray) (at' : Nat) (bad : Bool) (hs : s.size ≤ 1048576) (h : Rdr w R s at' bad) (ha : at' ≤ 2097152) (hw0 : 0 < wd.size) (hw : wd.size ≤ 16) (hp : pre wd s at' = true) :
    Calls Tryd.prog 57 #[.pointer (some ⟨R, 0, none⟩), .string wd] w fun e w' => e = .returned (.tuple #[]) ∧ Rdr w' R s (at' + wd.size) bad ∧ But R w w' := by
  obtain ⟨c0, c1, c2, f1, f2⟩ := h.cells
  obtain ⟨h1, h2⟩ := (pre_iff hw0).1 hp
  have H := hide h
  have hd : decide ((s.size : Int) < (at' : Int) + (wd.size : Int)) = false := by simp; omega
  have hi0 : (0 : Int) ≤ (at' : Int) := by omega
  have hi1 : (at' : Int) ≤ (at' : Int) + (wd.size : Int) := by omega
  have hi2 : (at' : Int) + (wd.size : Int) ≤ (s.size : Int) := by omega
  clear h hp
  go_enter Tryd.func57, Tryd.ntmps57
  go_wp2_with fail
  go_quiet (fail)
  go_wp2_with fail
  go_end0
  exact ⟨rfl, (H.out.drewN _).set1 _, (but_drewN (But.refl _ _) _).trans (But.set _ _ _)⟩

set_option maxHeartbeats 800000 in
theorem eat_no (w : World) (R : Nat) (s wd : ByteArray) (at' : Nat) (bad : Bool) (hs : s.size ≤ 1048576) (h : Rdr w R s at' bad) (ha : at' ≤ 2097152) (hw0 : 0 < wd.size) (hw : wd.size ≤ 16) (hp : pre wd s at' = false) :
    Calls Tryd.prog 57 #[.pointer (some ⟨R, 0, none⟩), .string wd] w fun e w' => e = .returned (.tuple #[]) ∧ Rdr w' R s at' true ∧ But R w w' := by
  obtain ⟨c0, c1, c2, f1, f2⟩ := h.cells
  have H := hide h
  clear h
  by_cases h1 : at' + wd.size ≤ s.size
  · have h2 : ¬ s.extract at' (at' + wd.size) = wd := fun e => by rw [(pre_iff hw0).2 ⟨h1, e⟩] at hp; cases hp
    have hd : decide ((s.size : Int) < (at' : Int) + (wd.size : Int)) = false := by simp; omega
    have hi0 : (0 : Int) ≤ (at' : Int) := by omega
    have hi1 : (at' : Int) ≤ (at' : Int) + (wd.size : Int) := by omega
    have hi2 : (at' : Int) + (wd.size : Int) ≤ (s.size : Int) := by omega
    have hbe : ((s.extract at' (at' + wd.size)).toList == wd.toList) = false := by rw [toList_beq]; simpa using h2
    clear hp h2
    go_enter Tryd.func57, Tryd.ntmps57
    go_wp2_with fail
    go_quiet (fail)
    go_wp2_with fail
    (try simp only [Exit.inBlock, Exit.then]); refine bodyPost_ret (results_none rfl _ _ _) rfl ?_
    exact ⟨rfl, (H.out.drewN _).set2 _, (but_drewN (But.refl _ _) _).trans (But.set _ _ _)⟩
  · have hd : decide ((s.size : Int) < (at' : Int) + (wd.size : Int)) = true := by simp; omega
    clear hp
    go_enter Tryd.func57, Tryd.ntmps57
    go_wp2_with fail
    go_quiet (fail)
    go_wp2_with fail
    (try simp only [Exit.inBlock, Exit.then]); refine bodyPost_ret (results_none rfl _ _ _) rfl ?_
    exact ⟨rfl, (H.out.drewN _).set2 _, (but_drewN (But.refl _ _) _).trans (But.set _ _ _)⟩
end Go.Proofs.YthkjhmcbmakkdaaDoor
