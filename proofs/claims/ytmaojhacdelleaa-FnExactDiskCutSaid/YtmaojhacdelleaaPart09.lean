/- The walk of the specification's DiskOk: what it answers, and that it turns nothing that was there. No conditions. -/
import Derived.Test.YtmaojhacdelleaaPart08
import Derived.Deep.RegionWith
import Derived.BigQuiet
namespace Go.Proofs.Ytmaojhacdelleaa
open Go Go.RowKit

/-- What is asked of the file at a place. -/
structure FOkS (fs : List Df) (made : List ByteArray) (i : Nat) (h : i < fs.length) (h2 : i < made.length) : Prop where
  name : nameOkB fs[i].name = true
  same : sameB fs[i].name made[i] = true
  data : fs[i].data.size ≤ 20000
  kept : 0 ≤ fs[i].kept ∧ fs[i].kept ≤ fs[i].data.size
  find : findF fs fs[i].name = i
/-- What the specification asks of a disk. -/
structure DkOkS (d : Dk) : Prop where
  l1 : d.files.length ≤ 64
  l2 : d.names.length ≤ 64
  l3 : d.moves.length ≤ 128
  len : (madeD d.names d.moves).length = d.files.length
  file : ∀ i (h : i < d.files.length) (h2 : i < (madeD d.names d.moves).length), FOkS d.files (madeD d.names d.moves) i h h2
  move : ∀ i (h : i < d.moves.length), d.moves[i].gone = true → hasB (afterD d.names (d.moves.take i)) d.moves[i].name = true

/-- An ending gives back whether something is so. -/
def RetIff (e : Ending) (p : Prop) : Prop := ∃ r : Bool, e = .returned (.bool r) ∧ (r = true ↔ p)
theorem RetIff.yes {p : Prop} (h : p) : RetIff (.returned (.bool true)) p := ⟨true, rfl, by simp [h]⟩
theorem RetIff.no {p : Prop} (h : ¬ p) : RetIff (.returned (.bool false)) p := ⟨false, rfl, by simp [h]⟩

theorem bdrewN {n : Nat} {w W : World} (h : Below n w W) (m : Nat) : Below n w (W.drewN m) := ⟨h.os, h.tape, h.output, h.size, h.block⟩
theorem findF_range (fs : List Df) (x : ByteArray) (h : fs.length ≤ 9223372036854775807) : -9223372036854775808 ≤ findF fs x ∧ findF fs x ≤ 9223372036854775807 := by
  unfold findF
  cases e : fs.findIdx? (fun f => sameB f.name x) with
  | none => simp
  | some i =>
    have := (List.findIdx?_eq_some_iff_getElem.1 e).1
    simp only
    omega

set_option maxRecDepth 100000 in
set_option maxHeartbeats 3200000 in
theorem specDiskOk_any (d : Dk) (P : Nat → Prop) (c : C3) (w : World) (hP : ∀ b, P b → b < w.heap.size) (hd : DkAt P w d c) :
    Calls Try.prog 33 #[.agg #[c.c0, c.c1, c.c2]] w fun e w' => RetIff e (DkOkS d) ∧ Below w.heap.size w w' := by
  obtain ⟨c0, c1, c2⟩ := c
  have HD := hide hd
  obtain ⟨a0, p0, g0, hl0, hfc⟩ := hd.fs.open
  obtain ⟨a1, p1, g1, hl1, -⟩ := hd.ns
  obtain ⟨a2, p2, g2, hl2, hmc⟩ := hd.ms.open
  simp only at g0 g1 g2
  subst g0 g1 g2
  have hbx : ∀ o, Below w.heap.size w (w.alloc o) := fun o => (Below.refl _ _).alloc (Nat.le_refl _) o
  have HBX := hide hbx
  by_cases h1 : 64 < d.files.length
  · clear hd hfc hmc hbx
    go_enter Try.func33, Try.ntmps33
    go_wp2_with fail
    go_ret
    exact ⟨RetIff.no (fun h => by have := h.l1; omega), unhide HBX _⟩
  replace h1 : d.files.length ≤ 64 := by omega
  by_cases h2 : 64 < d.names.length
  · clear hd hfc hmc hbx
    go_enter Try.func33, Try.ntmps33
    go_wp2_with fail
    go_ret
    exact ⟨RetIff.no (fun h => by have := h.l2; omega), unhide HBX _⟩
  replace h2 : d.names.length ≤ 64 := by omega
  by_cases h3 : 128 < d.moves.length
  · clear hd hfc hmc hbx
    go_enter Try.func33, Try.ntmps33
    go_wp2_with fail
    go_ret
    exact ⟨RetIff.no (fun h => by have := h.l3; omega), unhide HBX _⟩
  replace h3 : d.moves.length ≤ 128 := by omega
  have HMADE := hide (fun o => l41Made_any d P ⟨.slice a0 d.files.length p0, .slice a1 d.names.length p1, .slice a2 d.moves.length p2⟩ (w.alloc o) (fun b hb => Nat.lt_of_lt_of_le (hP b hb) (hbx o).size) (hd.carry (fun b hb => (hbx o).block b (hP b hb)) (fun _ h => h)) (by omega) (by omega))
  have HFC := hide hfc; have HMC := hide hmc; have HP := hide hP
  have HROW := hide (row3_alloc w (.slice a0 d.files.length p0) (.slice a1 d.names.length p1) (.slice a2 d.moves.length p2) 34)
  have HOKS := hide (show DkOkS d → DkOkS d from id)
  clear hd hfc hmc hP hbx
  go_enter Try.func33, Try.ntmps33
  go_wp2_with fail
  refine (unhide HMADE _).mono ?_
  rintro e w1 ⟨a, n, cap, rfl, HNM⟩
  have hlen := HNM.out.len
  have HLEN := hide hlen
  have hb1 := HNM.out.below
  have hs1 := hb1.size
  have hq1 := (unhide HROW).of_block (hb1.block w.heap.size (by simp))
  have k0 := hq1.cell (i := 0) (by omega); have k2 := hq1.cell (i := 2) (by omega)
  simp only [row3] at k0 k2
  by_cases hn : n = d.files.length
  rotate_left
  · have HN := hide hn
    have HB1 := hide ((unhide HBX _).trans (hb1.mono (unhide HBX _).size))
    clear hlen hb1 hq1
    go_wp2_with fail
    go_ret
    exact ⟨RetIff.no (fun h => unhide HN (by rw [unhide HLEN]; exact h.len)), unhide HB1⟩
  subst hn
  have hst := HNM.out.strs
  obtain ⟨a9, cap9, e9, -, hmd⟩ := hst
  simp only [Value.slice.injEq] at e9
  obtain ⟨rfl, -, rfl⟩ := e9
  have HMD := hide hmd; have HB01 := hide ((unhide HBX _).trans (hb1.mono (unhide HBX _).size)); have Q1 := hide hq1
  generalize HMK : madeD d.names d.moves = made at *
  have HMK' := hide HMK
  clear hmd hb1 hq1 k2 HNM HMK HMADE hlen
  have hs1' : w.heap.size + 1 ≤ w1.heap.size := by simpa using hs1
  clear hs1
  go_wp2_with fail
  clear k0
  go_loopw [4] (fun i wr => ∃ (k : Nat), k ≤ d.files.length ∧ i = .int .i64 k ∧ Hid (∀ j (h : j < d.files.length) (h2 : j < made.length), j < k → FOkS d.files made j h h2) ∧ Hid (Below w1.heap.size w1 wr)) (fun i _ => d.files.length - (intOf i).toNat)
  case atStart => exact ⟨0, Nat.zero_le _, rfl, fun j _ _ hj => by omega, Below.refl _ _⟩
  case round =>
    obtain ⟨k, hk, rfl, HQ, HB⟩ := hrel
    have hq2 := (unhide Q1).of_block (HB.out.block w.heap.size (by omega))
    have k0 := hq2.cell (i := 0) (by omega)
    simp only [row3] at k0
    by_cases hlt : k < d.files.length
    rotate_left
    · obtain rfl : k = d.files.length := by omega
      have HFALL := hide (fun j h h2 => HQ.out j h h2 h)
      have HB2 := HB
      clear HQ hlt hk
      go_wp2_with fail
      clear k0
      go_loopw [6] (fun i wr2 => ∃ (k : Nat), k ≤ d.moves.length ∧ i = .int .i64 k ∧ Hid (∀ j (h : j < d.moves.length), j < k → d.moves[j].gone = true → hasB (afterD d.names (d.moves.take j)) d.moves[j].name = true) ∧ Hid (Below w1.heap.size w1 wr2)) (fun i _ => d.moves.length - (intOf i).toNat)
      case atStart => exact ⟨0, Nat.zero_le _, rfl, fun j _ hj => by omega, HB2.out⟩
      case round =>
        obtain ⟨k, hk, rfl, HQ, HB⟩ := hrel
        have hq2 := (unhide Q1).of_block (HB.out.block w.heap.size (by omega))
        have k0 := hq2.cell (i := 0) (by omega); have k1 := hq2.cell (i := 1) (by omega); have k2 := hq2.cell (i := 2) (by omega)
        simp only [row3] at k0 k1 k2
        have hbw := (unhide HB01).trans (HB.out.mono (unhide HB01).size)
        by_cases hlt : k < d.moves.length
        rotate_left
        · have HBW := hide hbw
          clear hbw hq2
          go_wp2_with fail
          go_ret
          exact ⟨RetIff.yes ⟨by omega, by omega, by omega, by rw [unhide HMK']; exact (unhide HLEN).symm, by rw [unhide HMK']; exact unhide HFALL, fun i h hg => HQ.out i h (by omega) hg⟩, unhide HBW⟩
        · obtain ⟨b, o, rfl, hpb, hc0, hc1, hok⟩ := unhide HMC k hlt
          have hcar : ∀ o', wr.cell? ⟨b, o', none⟩ = w.cell? ⟨b, o', none⟩ := fun o' => hbw.cell (p := ⟨b, o', none⟩) (unhide HP b hpb)
          have e0 : wr.cell? ⟨b, o + k * 2, none⟩ = some (.bool d.moves[k].gone) := by rw [hcar]; exact hc0
          have e1 : wr.cell? ⟨b, o + k * 2 + 1, none⟩ = some (.string d.moves[k].name) := by rw [hcar]; exact hc1
          have HBW := hide hbw
          cases c1 : d.moves[k].gone with
          | false =>
            rw [c1] at e0
            have HC1 := hide c1
            clear hc0 hc1 hcar hpb hok hbw hq2 c1
            go_wp2_with fail
            go_quiet (fail)
            go_wp2_with fail
            go_roundw
            case rel => exact ⟨k + 1, by omega, by go_num, fun j h hj hg => by
              by_cases e : j = k
              · subst e; rw [unhide HC1] at hg; cases hg
              · exact HQ.out j h (by omega) hg, bdrewN HB.out _⟩
            case measure => simp [intOf]; omega
          | true =>
            rw [c1] at e0
            have HAF := hide (fun (W : World) (hW : Below w.heap.size w W) => l41After_any d P ⟨.slice a0 d.files.length p0, .slice a1 d.names.length p1, .slice (some ⟨b, o, none⟩) d.moves.length p2⟩ W (fun b hb => Nat.lt_of_lt_of_le (unhide HP b hb) hW.size) ((unhide HD).carry (fun b hb => hW.block b (unhide HP b hb)) (fun _ h => h)) (by omega) (by omega) k hk)
            have hgo := hide c1
            have HNM2 := hide (rfl : d.moves[k].name = d.moves[k].name)
            clear hc0 hc1 hcar hpb hok hbw hq2 c1
            generalize hnm : d.moves[k].name = nm at *
            cases c2 : hasB (afterD d.names (d.moves.take k)) nm with
            | false =>
              have HNO := hide (show ¬ DkOkS d from fun h => by have := h.move k hlt (unhide hgo); rw [hnm, c2] at this; cases this)
              clear hnm
              go_wp2_with fail
              go_region_with (first
                | (go_at_call 57
                   refine (unhide HAF _ (by first | exact unhide HBW | exact (unhide HBW).drew)).mono ?_
                   rintro e w5 ⟨a5, n5, c5, rfl, H5⟩
                   have hb5 := H5.out.below
                   have k25 : w5.cell? ⟨w.heap.size, 2, none⟩ = some (.slice (some ⟨b, o, none⟩) d.moves.length p2) := by
                     rw [hb5.cell (p := ⟨w.heap.size, 2, none⟩) (World.block_lt_of_cell? wr _ k2)]; exact k2
                   have e15 : w5.cell? ⟨b, o + k * 2 + 1, none⟩ = some (.string nm) := by
                     rw [hb5.cell (p := ⟨b, o + k * 2 + 1, none⟩) (World.block_lt_of_cell? wr _ e1)]; exact e1
                   have HHS := hide (l6Has_any _ _ nm w5 H5.out.strs)
                   rw [c2] at HHS
                   have HBN := hide ((unhide HBW).drew.trans (hb5.mono (unhide HBW).size))
                   have HBM := hide (HB.out.drew.trans (hb5.mono HB.out.size))
                   clear hb5)
                | (go_at_call 40
                   refine (unhide HHS).mono ?_
                   rintro e w6 ⟨rfl, rfl⟩))
              all_goals
                go_wp2_with fail
                go_ret
                exact ⟨RetIff.no (unhide HNO), unhide HBN⟩
            | true =>
              have HYES := hide (show hasB (afterD d.names (d.moves.take k)) d.moves[k].name = true by rw [hnm]; exact c2)
              clear hnm
              go_wp2_with fail
              go_region_with (first
                | (go_at_call 57
                   refine (unhide HAF _ (by first | exact unhide HBW | exact (unhide HBW).drew)).mono ?_
                   rintro e w5 ⟨a5, n5, c5, rfl, H5⟩
                   have hb5 := H5.out.below
                   have k25 : w5.cell? ⟨w.heap.size, 2, none⟩ = some (.slice (some ⟨b, o, none⟩) d.moves.length p2) := by
                     rw [hb5.cell (p := ⟨w.heap.size, 2, none⟩) (World.block_lt_of_cell? wr _ k2)]; exact k2
                   have e15 : w5.cell? ⟨b, o + k * 2 + 1, none⟩ = some (.string nm) := by
                     rw [hb5.cell (p := ⟨b, o + k * 2 + 1, none⟩) (World.block_lt_of_cell? wr _ e1)]; exact e1
                   have HHS := hide (l6Has_any _ _ nm w5 H5.out.strs)
                   rw [c2] at HHS
                   have HBN := hide ((unhide HBW).drew.trans (hb5.mono (unhide HBW).size))
                   have HBM := hide (HB.out.drew.trans (hb5.mono HB.out.size))
                   clear hb5)
                | (go_at_call 40
                   refine (unhide HHS).mono ?_
                   rintro e w6 ⟨rfl, rfl⟩))
              all_goals
                go_wp2_with fail
                go_roundw
                case rel => exact ⟨k + 1, by omega, by go_num, fun j h hj hg => by
                  by_cases e : j = k
                  · subst e; exact unhide HYES
                  · exact HQ.out j h (by omega) hg, unhide HBM⟩
                case measure => simp [intOf]; omega
    · have hlm : k < made.length := by rw [← unhide HLEN]; exact hlt
      obtain ⟨b, o, rfl, hpb, hcell, hok⟩ := unhide HFC k hlt
      have hbw := (unhide HB01).trans (HB.out.mono (unhide HB01).size)
      have hcell' := hcell.carry (hbw.block b (unhide HP b hpb))
      obtain ⟨e0, e1, e2⟩ := hcell'
      simp only at e0 e1 e2
      obtain ⟨bm, om, rfl, hpm, hcm, -⟩ := unhide HMD k hlm
      have hcm' : wr.cell? ⟨bm, om + k, none⟩ = some (.string made[k]) := by rw [HB.out.cell hpm.2]; exact hcm
      have HFI := hide (fun o' nq => l41Find_any (.slice (some ⟨b, o, none⟩) d.files.length p0) d.files d.files[k].name ((wr.alloc o').drewN nq) (P := P) ((unhide HD).fs.carry (fun b hb => ((hbw.alloc hbw.size o').block b (unhide HP b hb))) (fun _ h => h)))
      have HNA := hide (fun W => l6NameOk_any d.files[k].name W hok.1)
      have HIN := hide (fun W => l6In_any d.files[k].kept 0 d.files[k].data.size W)
      have HFO := hide (show FOkS d.files made k hlt hlm ↔ (nameOkB d.files[k].name = true ∧ sameB d.files[k].name made[k] = true ∧ d.files[k].data.size ≤ 20000 ∧ (0 ≤ d.files[k].kept ∧ d.files[k].kept ≤ d.files[k].data.size) ∧ findF d.files d.files[k].name = k) from ⟨fun h => ⟨h.name, h.same, h.data, h.kept, h.find⟩, fun h => ⟨h.1, h.2.1, h.2.2.1, h.2.2.2.1, h.2.2.2.2⟩⟩)
      obtain ⟨hz1, hz2, hz3⟩ := hok
      have hfr := findF_range d.files d.files[k].name hl0
      generalize findF d.files d.files[k].name = fi at *
      generalize d.files[k] = f at *
      generalize made[k] = mk at *
      obtain ⟨fn, fd, fk⟩ := f
      simp only at *
      have HBW := hide hbw
      clear hcell hcm hpb hpm hq2 hbw
      have HBA := hide (fun o' => ((unhide HBW).alloc (unhide HBW).size o'))
      have hcm2 : ∀ o', (wr.alloc o').cell? ⟨bm, om + k, none⟩ = some (.string mk) := fun o' => by rw [World.cell?_of_block (w := wr) (Below.heap_alloc _ _ _ (World.block_lt_of_cell? wr _ hcm'))]; exact hcm'
      have k02 : ∀ o', (wr.alloc o').cell? ⟨w.heap.size, 0, none⟩ = some (.slice (some ⟨b, o, none⟩) d.files.length p0) := fun o' => by rw [World.cell?_of_block (w := wr) (Below.heap_alloc _ _ _ (World.block_lt_of_cell? wr _ k0))]; exact k0
      cases c1 : nameOkB fn with
      | false =>
        have HNO := hide (show ¬ FOkS d.files made k hlt hlm from fun h => by have := (unhide HFO).1 h; simp [c1] at this)
        rw [c1] at HNA
        go_wp2_with fail
        go_quiet (first
          | (go_at_call 35; exact Calls.quiet_of_same (unhide HNA _)))
        go_wp2_with fail
        go_ret
        exact ⟨RetIff.no (fun h => unhide HNO ((unhide HMK') ▸ h.file k hlt (by rw [unhide HMK']; exact hlm))), bdrewN (unhide HBA _) _⟩
      | true =>
      rw [c1] at HNA
      cases c2 : sameB fn mk with
      | false =>
        have HNO := hide (show ¬ FOkS d.files made k hlt hlm from fun h => by have := (unhide HFO).1 h; simp [c2] at this)
        unfold sameB at c2
        go_wp2_with fail
        go_quiet (first
          | (go_at_call 35; exact Calls.quiet_of_same (unhide HNA _)))
        go_wp2_with fail
        go_ret
        exact ⟨RetIff.no (fun h => unhide HNO ((unhide HMK') ▸ h.file k hlt (by rw [unhide HMK']; exact hlm))), bdrewN (unhide HBA _) _⟩
      | true =>
      by_cases c3 : fd.size ≤ 20000
      rotate_left
      · have HNO := hide (show ¬ FOkS d.files made k hlt hlm from fun h => c3 ((unhide HFO).1 h).2.2.1)
        have c3' : decide ((20000 : Int) < (fd.size : Int)) = true := by simp; omega
        unfold sameB at c2
        go_wp2_with fail
        go_quiet (first
          | (go_at_call 35; exact Calls.quiet_of_same (unhide HNA _)))
        go_wp2_with fail
        go_ret
        exact ⟨RetIff.no (fun h => unhide HNO ((unhide HMK') ▸ h.file k hlt (by rw [unhide HMK']; exact hlm))), bdrewN (unhide HBA _) _⟩
      have c3' : decide ((20000 : Int) < (fd.size : Int)) = false := by simp; omega
      by_cases c4 : 0 ≤ fk ∧ fk ≤ (fd.size : Int)
      rotate_left
      · have HNO := hide (show ¬ FOkS d.files made k hlt hlm from fun h => c4 ((unhide HFO).1 h).2.2.2.1)
        rw [decide_eq_false c4] at HIN
        unfold sameB at c2
        go_wp2_with fail
        go_quiet (first
          | (go_at_call 35; exact Calls.quiet_of_same (unhide HNA _))
          | (go_at_call 39; exact Calls.quiet_of_same (unhide HIN _)))
        go_wp2_with fail
        go_ret
        exact ⟨RetIff.no (fun h => unhide HNO ((unhide HMK') ▸ h.file k hlt (by rw [unhide HMK']; exact hlm))), bdrewN (unhide HBA _) _⟩
      by_cases c5 : fi = (k : Int)
      rotate_left
      · have HNO := hide (show ¬ FOkS d.files made k hlt hlm from fun h => c5 ((unhide HFO).1 h).2.2.2.2)
        have c5' : decide (fi = (k : Int)) = false := decide_eq_false c5
        rw [decide_eq_true c4] at HIN
        unfold sameB at c2
        have C4 := hide c4; clear c4
        go_wp2_with fail
        go_quiet (first
          | (go_at_call 35; exact Calls.quiet_of_same (unhide HNA _))
          | (go_at_call 39; exact Calls.quiet_of_same (unhide HIN _))
          | (go_at_call 36; exact Calls.quiet_of_same (unhide HFI _ _)))
        go_wp2_with fail
        go_ret
        exact ⟨RetIff.no (fun h => unhide HNO ((unhide HMK') ▸ h.file k hlt (by rw [unhide HMK']; exact hlm))), bdrewN (unhide HBA _) _⟩
      · have HYES := hide ((unhide HFO).2 ⟨c1, c2, c3, c4, c5⟩)
        rw [decide_eq_true c4] at HIN
        unfold sameB at c2
        have C4 := hide c4; clear c4
        subst c5
        go_wp2_with fail
        go_quiet (first
          | (go_at_call 35; exact Calls.quiet_of_same (unhide HNA _))
          | (go_at_call 39; exact Calls.quiet_of_same (unhide HIN _))
          | (go_at_call 36; exact Calls.quiet_of_same (unhide HFI _ _)))
        go_wp2_with fail
        go_roundw
        case rel => exact ⟨k + 1, by omega, by go_num, fun j h h2 hj => by
          by_cases e : j = k
          · subst e; exact unhide HYES
          · exact HQ.out j h h2 (by omega), bdrewN (HB.out.alloc HB.out.size _) _⟩
        case measure => simp [intOf]; omega
end Go.Proofs.Ytmaojhacdelleaa
