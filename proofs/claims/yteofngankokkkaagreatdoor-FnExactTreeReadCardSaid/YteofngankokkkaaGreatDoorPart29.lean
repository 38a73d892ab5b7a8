/- The walks of the specification's l1Parts, TreeOk and TreeParts: what they answer. No conditions. -/
import Derived.Test.YteofngankokkkaaGreatDoorPart28
import Derived.Test.YteofngankokkkaaGreatDoorRows
import Derived.Test.YteofngankokkkaaGreatDoorPart00
import Derived.Lib.ItoaNum
import Derived.Lib.ItoaLen
import Derived.Lib.ItoaMem
import Derived.Deep.RegionWith
import Derived.WalkSmall
namespace Go.Proofs.YteofngankokkkaaGreatDoor
open Go Go.RowKit

def PartsSaid (n : Nat) : Prop := ∀ (t : Tr), tsz t < n → ∀ (P : Nat → Prop) (c : C5) (d : Int) (w : World), (∀ b, P b → b < w.heap.size) → Rep P w t c → 1 ≤ d → d ≤ 7 →
    Calls Tryz.prog 28 #[.agg #[c.c0, c.c1, c.c2, c.c3, c.c4], .int .i64 d] w fun e w' => e = .returned (.int .i64 (pT t d)) ∧ Below w.heap.size w w'

set_option maxHeartbeats 400000 in
theorem l1Parts_step (n : Nat) (IH : PartsSaid n) : PartsSaid (n + 1) := by
  intro t hn P c d w hP hrep hd0 hd1
  have HREP := hide hrep
  have HEQ := hide (pT_eq t d)
  obtain ⟨c0, c1, c2, c3, c4⟩ := c
  obtain ⟨e0, e1, e2, -, -, -, ⟨a3, cap3, e3, -, -⟩, a, cap, e4, hlen, hks⟩ := hrep.open
  simp only at e0 e1 e2 e3 e4
  subst e0 e1 e2 e3 e4
  have HP := hide hP; have HI := hide IH; have HK := hide hks
  clear hrep hP IH hks
  have hbx : ∀ o, Below w.heap.size w (w.alloc o) := fun o => (Below.refl _ _).alloc (Nat.le_refl _) o
  have HBX := hide hbx; clear hbx
  by_cases h6 : 6 < d
  · go_enter Tryz.func28, Tryz.ntmps28
    go_wp2_with fail
    go_ret
    refine ⟨?_, unhide HBX _⟩
    rw [unhide HEQ, if_pos (Or.inl h6)]
    rfl
  · have hal : ∀ o, Calls Tryz.prog 45 #[.agg #[.int .i64 t.sort, .int .i64 t.num, .string t.text, .slice a3 t.names.length cap3, .slice a t.kids.length cap]] (w.alloc o) fun e w' => e = .returned (.bool (aloneB t)) ∧ Below (w.alloc o).heap.size (w.alloc o) w' := fun o =>
      l1Alone_any t P ⟨_, _, _, _, _⟩ (w.alloc o) (fun b hb => Nat.lt_of_lt_of_le (unhide HP b hb) (unhide HBX o).size) (Rep.carry (fun b hb => (unhide HBX o).block b (unhide HP b hb)) (fun _ h => h) _ _ (unhide HREP))
    have HAL := hide hal; clear hal
    by_cases ha : aloneB t = true
    · go_enter Tryz.func28, Tryz.ntmps28
      go_wp2_with (go_at_call 45; refine (unhide HAL _).mono ?_; rintro e w' ⟨rfl, hb'⟩)
      obtain ⟨q0, -, hb0⟩ := box1 hb'
      have hpk : pT t d = pK t.kids d 1 := by rw [unhide HEQ, if_neg (by simp [ha]; omega)]
      have HPK := hide hpk
      clear hb' hpk HEQ HAL
      generalize hks : t.kids = ks at *
      have HKS := hide hks; clear hks
      go_loopw [5, 6] (fun m i wr => ∃ (k : Nat) (q : Int), k ≤ ks.length ∧ i = .int .i64 k ∧ m = .int .i64 q ∧ 1 ≤ q ∧ q ≤ 120 ∧ Hid (pK (ks.drop k) d q = pK ks d 1) ∧ wr.cell? ⟨w.heap.size, 4, none⟩ = some (.slice a ks.length cap) ∧ w.heap.size < wr.heap.size ∧ Below w.heap.size w wr) (fun _ i _ => ks.length - (intOf i).toNat)
      case atStart => exact ⟨0, 1, Nat.zero_le _, rfl, rfl, by omega, by omega, rfl, q0.cell (i := 4) (by omega), q0.lt, hb0⟩
      case round =>
        obtain ⟨k, q, hk, rfl, rfl, hq0, hq1, HQ, hbox, hbs, hb⟩ := hrel
        by_cases hlt : k < ks.length
        · obtain ⟨b, o, c, rfl, hpb, hcell, hrep⟩ := unhide HK k hlt
          have hcell' := hcell.carry (hb.block b (unhide HP b hpb))
          obtain ⟨c0, c1, c2, c3, c4⟩ := c
          obtain ⟨e0, e1, e2, e3, e4⟩ := hcell'
          simp only at e0 e1 e2 e3 e4
          have hmem : ks[k] ∈ t.kids := by rw [unhide HKS]; exact List.getElem_mem hlt
          have hsm : tsz ks[k] < n := by have := tsz_kid hmem; omega
          have hcall := unhide HI ks[k] hsm P ⟨c0, c1, c2, c3, c4⟩ (d + 1) wr (fun b hb' => Nat.lt_of_lt_of_le (unhide HP b hb') hb.size) (Rep.carry (fun b hb' => hb.block b (unhide HP b hb')) (fun _ h => h) _ _ hrep) (by omega) (by omega)
          have hst := pK_step hlt d q
          have hbd := pT_bd ks[k] (d + 1)
          generalize pT ks[k] (d + 1) = r at hcall hst hbd
          have HCALL := hide hcall; have HST := hide hst
          clear hrep hcell hpb hmem hcall hst
          by_cases hbad : r < 0 ∨ 120 < q + r
          · have hfin : pT t d = -1 := by rw [unhide HPK, ← HQ.out, unhide HST, if_pos hbad]
            have HFIN := hide hfin; clear hfin
            rcases hbad with hbad | hbad
            · go_wp2_with (go_at_call 28; refine (unhide HCALL).mono ?_; rintro e w2 ⟨rfl, hb2⟩)
              go_ret
              exact ⟨by rw [unhide HFIN]; rfl, hb.trans (hb2.mono hb.size)⟩
            · have hr0 : 0 ≤ r := by omega
              go_wp2_with (go_at_call 28; refine (unhide HCALL).mono ?_; rintro e w2 ⟨rfl, hb2⟩)
              go_ret
              exact ⟨by rw [unhide HFIN]; rfl, hb.trans (hb2.mono hb.size)⟩
          · have hr0 : 0 ≤ r := by omega
            have hr1 : q + r ≤ 120 := by omega
            have hfin : pK (ks.drop (k + 1)) d (q + r) = pK ks d 1 := by rw [← HQ.out, unhide HST, if_neg hbad]
            have HFIN := hide hfin
            clear hfin hbad
            go_wp2_with (go_at_call 28; refine (unhide HCALL).mono ?_; rintro e w2 ⟨rfl, hb2⟩)
            go_roundw
            case rel => exact ⟨k + 1, _, by omega, by go_num, rfl, by omega, by omega, unhide HFIN, by rw [hb2.cell hbs]; exact hbox, Nat.lt_of_lt_of_le hbs hb2.size, hb.trans (hb2.mono hb.size)⟩
            case measure => simp [intOf]; omega
        · go_wp2_with fail
          go_ret
          refine ⟨?_, hb⟩
          rw [unhide HPK, ← HQ.out, List.drop_of_length_le (by omega), pK]
          rfl
    · have ha' : aloneB t = false := by simpa using ha
      clear ha
      go_enter Tryz.func28, Tryz.ntmps28
      go_wp2_with (go_at_call 45; refine (unhide HAL _).mono ?_; rintro e w' ⟨rfl, hb'⟩)
      go_ret
      refine ⟨?_, (box1 hb').2.2⟩
      rw [unhide HEQ, if_pos (Or.inr ha')]
      rfl

theorem l1Parts_all : ∀ n, PartsSaid n
  | 0 => fun t h => by omega
  | n + 1 => l1Parts_step n (l1Parts_all n)

set_option maxHeartbeats 400000 in
theorem specTreeOk_any (t : Tr) (P : Nat → Prop) (c : C5) (w : World) (hP : ∀ b, P b → b < w.heap.size) (hrep : Rep P w t c) :
    Calls Tryz.prog 10 #[.agg #[c.c0, c.c1, c.c2, c.c3, c.c4]] w fun e w' => e = .returned (.bool (decide (0 < pT t 1))) ∧ Below w.heap.size w w' := by
  have hbx : ∀ o, Below w.heap.size w (w.alloc o) := fun o => (Below.refl _ _).alloc (Nat.le_refl _) o
  have hcall : ∀ o, Calls Tryz.prog 28 #[.agg #[c.c0, c.c1, c.c2, c.c3, c.c4], .int .i64 1] (w.alloc o) fun e w' => e = .returned (.int .i64 (pT t 1)) ∧ Below w.heap.size w w' := fun o =>
    (l1Parts_all (tsz t + 1) t (by omega) P c 1 (w.alloc o) (fun b hb => Nat.lt_of_lt_of_le (hP b hb) (hbx o).size) (Rep.carry (fun b hb => (hbx o).block b (hP b hb)) (fun _ h => h) _ _ hrep) (by omega) (by omega)).mono
      fun e w' ⟨h1, h2⟩ => ⟨h1, (hbx o).trans (h2.mono (hbx o).size)⟩
  generalize pT t 1 = r at *
  have HCALL := hide hcall
  clear hbx hcall hP hrep
  go_enter Tryz.func10, Tryz.ntmps10
  go_wp2_with (go_at_call 28; refine (unhide HCALL _).mono ?_; rintro e w2 ⟨rfl, hb2⟩)
  go_ret
  exact ⟨rfl, hb2⟩
end Go.Proofs.YteofngankokkkaaGreatDoor

/- Digits as bytes and strings; small laws. No program walked, no conditions. -/

namespace Go.Proofs.YteofngankokkkaaGreatDoor
open Go Go.RowKit

/-- A digit's byte. -/
def dg (m : Int) : UInt8 := UInt8.ofNat (48 + m.toNat)
theorem dg_nat {m : Int} (h0 : 0 ≤ m) (h1 : m < 10) : ((dg m).toNat : Int) = 48 + m := by unfold dg; rw [UInt8.toNat_ofNat']; omega
theorem dec_small {n : Int} (h : n < 10) : Lib.decDigits n.toNat = [dg n] := by rw [Lib.decDigits, dif_pos (by omega)]; rfl
theorem dec_big {n : Int} (h : ¬ n < 10) : Lib.decDigits n.toNat = Lib.decDigits (n / 10).toNat ++ [dg (n % 10)] := by
  rw [Lib.decDigits, dif_neg (by omega), show (n / 10).toNat = n.toNat / 10 from by omega, show dg (n % 10) = UInt8.ofNat (48 + n.toNat % 10) from by unfold dg; rw [show (n % 10).toNat = n.toNat % 10 from by omega]]

/-- One byte, as a string. -/
theorem conv_one (W : World) (b cap : Nat) (m : Int) (h0 : 0 ≤ m) (h1 : m < 10) (hc : W.cell? ⟨b, 0, none⟩ = some (.int .u8 (48 + m))) :
    Sem.run Tryz.prog (convert 73 9 (.slice (some ⟨b, 0, none⟩) 1 cap)) W = .ok (.string ⟨#[dg m]⟩) W := by
  have := run_convert_bytes_back (P := Tryz.prog) W 73 9 5 ⟨b, 0, none⟩ cap [dg m] Tryz.underlying73 Tryz.underlying5 Tryz.underlying9 (fun j hj => by
    have hj0 : j = 0 := by simpa using hj
    subst hj0
    rw [Addr.add_lit, hc]
    simp only [List.getElem_cons_zero]
    rw [dg_nat h0 h1])
  simpa using this

theorem quo10 {n : Int} (h0 : 0 ≤ n) (h1 : n ≤ 999999999) : IntKind.i64.wrap (n.tdiv 10) = n / 10 := by
  rw [IntKind.wrap_i64, Int.tdiv_eq_ediv_of_nonneg h0]; omega
theorem rem10 {n : Int} (h0 : 0 ≤ n) : IntKind.i64.wrap (48 + n.tmod 10) = 48 + n % 10 := by
  rw [IntKind.wrap_i64, Int.tmod_eq_emod_of_nonneg h0]; omega
theorem rem10b (n : Int) : IntKind.u8.wrap (48 + n % 10) = 48 + n % 10 := by
  rw [IntKind.wrap_u8]; omega

theorem ba_append (a b : List UInt8) : ((⟨a.toArray⟩ : ByteArray) ++ (⟨b.toArray⟩ : ByteArray)) = ⟨(a ++ b).toArray⟩ := by
  apply ByteArray.ext
  simp
theorem ret_str {a b : ByteArray} (h : a = b) : Ending.returned (.string a) = .returned (.string b) := by rw [h]
theorem bc1 {w w1 : World} {o : Obj} (h : Below w.drew.heap.size w.drew w1) : Below w.heap.size w (w1.alloc o) :=
  (((Below.refl _ w).drew).trans h).alloc h.size o
theorem bc2 {w w1 : World} {o : Obj} (h : Below (w.alloc o).drew.heap.size (w.alloc o).drew w1) : Below w.heap.size w w1 :=
  (((Below.refl _ w).alloc (Nat.le_refl _) o).drew).trans (h.mono (by simp))
end Go.Proofs.YteofngankokkkaaGreatDoor

/- The walk of the specification's l6Dec: it gives the decimals of a number. For numbers from -999999999 to 999999999. -/

namespace Go.Proofs.YteofngankokkkaaGreatDoor
open Go Go.RowKit

set_option maxRecDepth 100000 in
set_option maxHeartbeats 400000 in
theorem l6Dec_nat : ∀ (k : Nat) (n : Int) (w : World), 0 ≤ n → n < k → n ≤ 999999999 →
    Calls Tryz.prog 29 #[.int .i64 n] w fun e w' => e = .returned (.string ⟨(Lib.decDigits n.toNat).toArray⟩) ∧ Below w.heap.size w w' := by
  intro k
  induction k with
  | zero => intro n w h0 h; omega
  | succ k ih =>
    intro n w hn0 hk hu
    by_cases h10 : n < 10
    · have HD := hide (dec_small h10)
      have hconv := fun W b cap => conv_one W b cap n hn0 h10
      clear ih
      go_enter Tryz.func29, Tryz.ntmps29
      go_wp2_with fail
      go_ret
      exact ⟨by rw [unhide HD]; rfl, (Below.refl _ _).alloc (Nat.le_refl _) _⟩
    · have HD := hide (dec_big h10)
      have hconv := fun W b cap => conv_one W b cap (n % 10) (by omega) (by omega)
      have hl := Lib.itoa_length_le (n / 10) (by omega) (by omega)
      have HIH := hide (fun W => (ih (n / 10) W (by omega) (by omega) (by omega)).mono (fun e w' (h : e = .returned (.string ⟨(Lib.decDigits (n / 10).toNat).toArray⟩) ∧ Below W.heap.size W w') => (⟨h.1, h.2, fun b o hb => h.2.cell (p := ⟨b, o, none⟩) hb⟩ : e = .returned (.string ⟨(Lib.decDigits (n / 10).toNat).toArray⟩) ∧ Below W.heap.size W w' ∧ ∀ b o, b < W.heap.size → w'.cell? ⟨b, o, none⟩ = W.cell? ⟨b, o, none⟩)))
      have hq1 := quo10 hn0 hu
      have hq2 := rem10 hn0
      have hq3 := rem10b n
      have hb0 : 0 ≤ n / 10 := by omega
      have hb1 : 0 ≤ n % 10 := by omega
      have hb2 : n % 10 < 10 := by omega
      have hl2 : (Lib.decDigits (n / 10).toNat).length ≤ 21 := by
        have : Lib.itoa (n / 10) = Lib.decDigits (n / 10).toNat := by unfold Lib.itoa; rw [if_neg (by omega)]
        rw [← this]; exact hl
      generalize Lib.decDigits (n / 10).toNat = ds at *
      clear ih hl
      go_enter Tryz.func29, Tryz.ntmps29
      go_wp2_with fail
      go_region_with (go_at_call 29; refine (unhide HIH _).mono ?_; rintro e w1 ⟨rfl, hb, hcell⟩; have HB := hide hb; clear hb)
      all_goals
        go_wp2_with fail
        go_ret
        refine ⟨ret_str ?_, ?_⟩
        · rw [unhide HD]; exact ba_append _ _
        · first | exact bc1 (unhide HB) | exact bc2 (unhide HB)

theorem itoa_lt {n : Int} (h : n < 0) : Lib.itoa n = 45 :: Lib.decDigits (-n).toNat := by
  unfold Lib.itoa; rw [if_pos h, show n.natAbs = (-n).toNat from by omega]
theorem itoa_ge {n : Int} (h : ¬ n < 0) : Lib.itoa n = Lib.decDigits n.toNat := by
  unfold Lib.itoa; rw [if_neg h]

set_option maxRecDepth 100000 in
set_option maxHeartbeats 400000 in
theorem l6Dec_any (n : Int) (w : World) (h0 : -999999999 ≤ n) (h1 : n ≤ 999999999) :
    Calls Tryz.prog 29 #[.int .i64 n] w fun e w' => e = .returned (.string ⟨(Lib.itoa n).toArray⟩) ∧ Below w.heap.size w w' := by
  by_cases hn : n < 0
  · rw [itoa_lt hn]
    have hl := Lib.itoa_length_le (-n) (by omega) (by omega)
    rw [itoa_ge (by omega)] at hl
    have HIH := hide (fun W => l6Dec_nat ((-n).toNat + 1) (-n) W (by omega) (by omega) (by omega))
    generalize Lib.decDigits (-n).toNat = ds at *
    go_enter Tryz.func29, Tryz.ntmps29
    go_wp2_with (go_at_call 29; refine (unhide HIH _).mono ?_; rintro e w1 ⟨rfl, hb⟩)
    go_ret
    exact ⟨ret_str (ba_append [45] ds), hb⟩
  · rw [itoa_ge hn]
    exact l6Dec_nat (n.toNat + 1) n w (by omega) (by omega) h1
end Go.Proofs.YteofngankokkkaaGreatDoor
