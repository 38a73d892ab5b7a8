/- The walks of the specification's RecOk, RecPack. No conditions. -/
import Derived.Test.YtiflfcjocngiiaaGreatDoorPart36
namespace Go.Proofs.YtiflfcjocngiiaaGreatDoor
open Go Go.RowKit

theorem recOk_head {pos : Int} {key : ByteArray} {es : List Ev} (h : headB pos key es.length = false) : recOkB pos key es = false := by unfold recOkB; rw [h]; rfl
theorem recOk_all {pos : Int} {key : ByteArray} {es : List Ev} (h : es.all evOkE = false) : recOkB pos key es = false := by unfold recOkB; rw [h, Bool.and_false]; rfl
theorem recOk_len {pos : Int} {key : ByteArray} {es : List Ev} (h : headB pos key es.length = true) (ha : es.all evOkE = true) : recOkB pos key es = decide ((recB key es).length ≤ 2000) := by unfold recOkB; rw [h, ha]; rfl

set_option maxRecDepth 100000 in
set_option maxHeartbeats 3200000 in
theorem specRecOk_any (pos : Int) (key : ByteArray) (es : List Ev) (P : Nat → Prop) (v : Value) (w : World) (hP : ∀ b, P b → b < w.heap.size) (hv : EvsAt P w v es) (hk : key.size ≤ 9223372036854775807) :
    Calls Tryz.prog 25 #[.agg #[.int .i64 pos, .string key, v]] w fun e w' => e = .returned (.bool (recOkB pos key es)) ∧ Below w.heap.size w w' := by
  obtain ⟨W0, hW0⟩ : ∃ W0, w.alloc (.cells #[.int .i64 pos, .string key, v] 24) = W0 := ⟨_, rfl⟩
  have hb0 : Below w.heap.size w W0 := by rw [← hW0]; exact (Below.refl _ _).alloc (Nat.le_refl _) _
  have hr0 : W0.rowIs w.heap.size 24 3 (row3 (.int .i64 pos) (.string key) v) := by rw [← hW0]; exact row3_alloc w _ _ _ _
  have HTX := hide (fun (W : World) (hW : Below w.heap.size w W) (hk8 : key.size ≤ 8) (hn : es.length ≤ 40) => l61Text_any pos key es P v W (fun b hb => Nat.lt_of_lt_of_le (hP b hb) hW.size) (hv.carry (fun b hb => hW.block b (hP b hb)) (fun _ h => h)) hk8 hn)
  obtain ⟨a, cap, rfl, -, hc⟩ := hv
  have HC := hide hc; have HP := hide hP
  have HI := hide (fun (W : World) (x y z : Int) => frInS x y z W)
  have HNM := hide (fun W => l6NameOk_any key W hk)
  have HB0 := hide hb0; have HR0 := hide hr0
  have kk := fun (W : World) (hW : Below W0.heap.size W0 W) => (⟨((unhide HR0).of_block (hW.block _ (unhide HR0).lt)).cell (i := 0) (by omega), ((unhide HR0).of_block (hW.block _ (unhide HR0).lt)).cell (i := 1) (by omega), ((unhide HR0).of_block (hW.block _ (unhide HR0).lt)).cell (i := 2) (by omega)⟩ : W.cell? ⟨w.heap.size, 0, none⟩ = some (.int .i64 pos) ∧ W.cell? ⟨w.heap.size, 1, none⟩ = some (.string key) ∧ W.cell? ⟨w.heap.size, 2, none⟩ = some (.slice a es.length cap))
  have HKK := hide kk
  obtain ⟨k0, k1, k2⟩ := kk W0 (Below.refl _ _)
  clear hc hP hb0 hr0 kk
  subst hW0
  go_enter Tryz.func25, Tryz.ntmps25
  generalize hW0 : w.alloc (.cells #[.int .i64 pos, .string key, .slice a es.length cap] 24) = W0 at *
  have HF : Hid (headB pos key es.length = false → recOkB pos key es = false) := hide recOk_head
  by_cases h1 : 1 ≤ pos ∧ pos ≤ 999999
  · have D1 := hide (decide_eq_true h1)
    clear h1
    go_wp2_with fail
    refine (unhide HI _ _ _ _).mono ?_
    rintro e w1 ⟨rfl, hb1⟩
    rw [unhide D1]
    clear k0 k1 k2
    obtain ⟨k0, k1, k2⟩ := unhide HKK w1 hb1
    have HB1 := hide hb1
    clear hb1
    go_wp2_with fail
    refine (unhide HNM _).mono ?_
    rintro e w2 ⟨rfl, rfl⟩
    by_cases h2 : nameOkB key = true
    · have H2 := hide h2
      rw [h2]
      clear h2
      go_wp2_with fail
      refine (unhide HI _ _ _ _).mono ?_
      rintro e w3 ⟨rfl, hb3⟩
      by_cases h3 : 1 ≤ (es.length : Int) ∧ (es.length : Int) ≤ 40
      · have HHD := hide (show headB pos key es.length = true by unfold headB; rw [unhide D1, unhide H2, decide_eq_true h3]; rfl)
        rw [decide_eq_true h3]
        have hn40 : es.length ≤ 40 := by omega
        have HB3 := hide ((unhide HB1).trans (hb3.mono (unhide HB1).size))
        clear h3 k0 k1 k2 hb3 HB1
        go_wp2_with fail
        go_loopw [3] (fun i wr => ∃ (k : Nat), k ≤ es.length ∧ i = .int .i64 k ∧ Hid ((es.take k).all evOkE = true) ∧ Hid (Below W0.heap.size W0 wr)) (fun i _ => es.length - (intOf i).toNat)
        case atStart => exact ⟨0, Nat.zero_le _, rfl, hide rfl, HB3⟩
        case round =>
          obtain ⟨k, hk', rfl, HA, HB⟩ := hrel
          have hb := HB.out
          obtain ⟨k0, k1, k2⟩ := unhide HKK wr hb
          have hb0 := (unhide HB0).trans (hb.mono (unhide HB0).size)
          by_cases hlt : k < es.length
          · obtain ⟨b, o, rfl, hpb, c, hcell, hrep, hty, hver⟩ := unhide HC k hlt
            have hcell' := hcell.carry (hb0.block b (unhide HP b hpb))
            obtain ⟨c0, c1, c2, c3, c4⟩ := c
            obtain ⟨e0, e1, e2, e3, e4, e5, e6⟩ := hcell'
            simp only at e0 e1 e2 e3 e4 e5 e6
            have HCALL := hide (specEventOk_any es[k].ty es[k].ver es[k].t P ⟨c0, c1, c2, c3, c4⟩ wr (fun b hb' => Nat.lt_of_lt_of_le (unhide HP b hb') hb0.size) (Rep.carry (fun b hb' => hb0.block b (unhide HP b hb')) (fun _ h => h) _ _ hrep) hty hver)
            have HTK := hide (all_take_succ hlt evOkE)
            have HAF := hide (fun hp => @recOk_all pos key es (all_false_at hlt hp))
            have HEE : Hid (evOkE es[k] = evOkB es[k].ty es[k].ver es[k].t) := hide rfl
            clear hrep hcell hpb hty hver hb hb0
            go_wp2_with fail
            refine (unhide HCALL).mono ?_
            rintro e w1' ⟨rfl, hb1'⟩
            rw [← HEE.out]
            have HBN := hide (HB.out.trans (hb1'.mono HB.out.size))
            clear hb1' HCALL e0 e1 e2 e3 e4 e5 e6
            by_cases hev : evOkE es[k] = true
            · have HN : Hid ((es.take (k + 1)).all evOkE = true) := by show _ = _; rw [unhide HTK, HA.out, hev]; rfl
              rw [hev]
              clear hev
              go_wp2_with fail
              go_roundw
              case rel => exact ⟨k + 1, by omega, by go_num, HN, HBN⟩
              case measure => simp [intOf]; omega
            · have hev' : evOkE es[k] = false := by simpa using hev
              have HN := hide (unhide HAF hev')
              rw [hev']
              clear hev hev'
              go_wp2_with fail
              go_ret
              exact ⟨by (rw [unhide HN]; rfl), (unhide HB0).trans ((unhide HBN).mono (unhide HB0).size)⟩
          · obtain rfl : k = es.length := by omega
            have hall := HA.out
            rw [List.take_length] at hall
            have HE := hide (recOk_len (unhide HHD) hall)
            have HT := hide (unhide HTX wr hb0 (name_size (unhide H2)) hn40)
            have HW0 := hide hb0
            have hrs : (bA (recB key es)).size = (recB key es).length := bA_size _
            have hrl : (recB key es).length ≤ 400000 := by
              unfold recB headT
              have h1 := evsB_len es; have h2 := name_size (unhide H2)
              rw [List.length_append, List.length_append, shortB_len]; simp; omega
            generalize recB key es = R at *
            clear hall HA hb hb0
            go_wp2_with fail
            refine (unhide HT).mono ?_
            rintro e w5 ⟨rfl, hb5⟩
            have HBN := hide ((unhide HW0).trans (hb5.mono (unhide HW0).size))
            clear hb5 HT k0 k1 k2
            by_cases hle : R.length ≤ 2000
            · have hle2 : ((bA R).size : Int) ≤ 2000 := by omega
              have HD := hide (decide_eq_true hle)
              clear hle hrs
              go_wp2_with fail
              go_ret
              exact ⟨by (rw [unhide HE, unhide HD]; rfl), unhide HBN⟩
            · have hle2 : decide (((bA R).size : Int) ≤ 2000) = false := decide_eq_false (by omega)
              have HD := hide (decide_eq_false hle)
              clear hle hrs
              go_wp2_with fail
              go_ret
              exact ⟨by (rw [unhide HE, unhide HD]; rfl), unhide HBN⟩
      · have HN := hide (unhide HF (by unfold headB; rw [decide_eq_false h3, Bool.and_false, Bool.and_false]))
        rw [decide_eq_false h3]
        have HB3 := hide ((unhide HB1).trans (hb3.mono (unhide HB1).size))
        clear h3 hb3
        go_wp2_with fail
        go_ret
        exact ⟨by (rw [unhide HN]; rfl), (unhide HB0).trans ((unhide HB3).mono (unhide HB0).size)⟩
    · have h2' : nameOkB key = false := by simpa using h2
      have HN := hide (unhide HF (by unfold headB; rw [h2', Bool.false_and, Bool.and_false]))
      rw [h2']
      clear h2 h2'
      go_wp2_with fail
      go_ret
      exact ⟨by (rw [unhide HN]; rfl), (unhide HB0).trans ((unhide HB1).mono (unhide HB0).size)⟩
  · have D1 := hide (decide_eq_false h1)
    have HN := hide (unhide HF (by unfold headB; rw [decide_eq_false h1, Bool.false_and]))
    clear h1
    go_wp2_with fail
    refine (unhide HI _ _ _ _).mono ?_
    rintro e w1 ⟨rfl, hb1⟩
    rw [unhide D1]
    have HB1 := hide hb1
    clear hb1
    go_wp2_with fail
    go_ret
    exact ⟨by (rw [unhide HN]; rfl), (unhide HB0).trans ((unhide HB1).mono (unhide HB0).size)⟩

set_option maxRecDepth 100000 in
set_option maxHeartbeats 1600000 in
theorem specRecPack_any (pos : Int) (key : ByteArray) (es : List Ev) (P : Nat → Prop) (v : Value) (w : World) (hP : ∀ b, P b → b < w.heap.size) (hv : EvsAt P w v es) (hk : key.size ≤ 9223372036854775807) :
    Calls Tryz.prog 12 #[.agg #[.int .i64 pos, .string key, v]] w fun e w' => e = .returned (.string (bA (recPackB pos key es))) ∧ Below w.heap.size w w' := by
  have hbx : ∀ o, Below w.heap.size w (w.alloc o) := fun o => (Below.refl _ _).alloc (Nat.le_refl _) o
  have HOK := hide (fun (W : World) (hW : Below w.heap.size w W) => specRecOk_any pos key es P v W (fun b hb => Nat.lt_of_lt_of_le (hP b hb) hW.size) (hv.carry (fun b hb => hW.block b (hP b hb)) (fun _ h => h)) hk)
  have HTX := hide (fun (W : World) (hW : Below w.heap.size w W) (hk8 : key.size ≤ 8) (hn : es.length ≤ 40) => l61Text_any pos key es P v W (fun b hb => Nat.lt_of_lt_of_le (hP b hb) hW.size) (hv.carry (fun b hb => hW.block b (hP b hb)) (fun _ h => h)) hk8 hn)
  have HBX := hide hbx
  obtain ⟨a, cap, rfl, -, -⟩ := hv
  clear hbx hP
  go_enter Tryz.func12, Tryz.ntmps12
  go_wp2_with fail
  refine (unhide HOK _ (unhide HBX _)).mono ?_
  rintro e w1 ⟨rfl, hb1⟩
  obtain ⟨q1, hs1, hb01⟩ := kbox1 hb1
  have k0 := q1.cell (i := 0) (by omega); have k1 := q1.cell (i := 1) (by omega); have k2 := q1.cell (i := 2) (by omega)
  simp only [row3] at k0 k1 k2
  have HB := hide hb01
  clear hb1 q1 HOK hb01
  by_cases h : recOkB pos key es = true
  · have HH := hide h
    have hh : headB pos key es.length = true := by
      refine Classical.byContradiction fun hn => ?_
      rw [recOk_head (by simpa using hn)] at h; cases h
    obtain ⟨-, hnm, -, hn40⟩ := headB_parts hh
    have HT := hide (unhide HTX w1 (unhide HB) (name_size hnm) (by omega))
    rw [h]
    clear h hh hnm hn40 HTX
    go_wp2_with fail
    refine (unhide HT).mono ?_
    rintro e w2 ⟨rfl, hb2⟩
    have HB2 := hide ((unhide HB).trans (hb2.mono (unhide HB).size))
    clear hb2 HT
    go_wp2_with fail
    go_ret
    exact ⟨by (unfold recPackB; rw [if_pos (unhide HH)]; rfl), unhide HB2⟩
  · have h' : recOkB pos key es = false := by simpa using h
    have HH := hide h
    rw [h']
    clear h h'
    go_wp2_with fail
    go_ret
    exact ⟨by (unfold recPackB; rw [if_neg (unhide HH)]; rfl), unhide HB⟩
end Go.Proofs.YtiflfcjocngiiaaGreatDoor
