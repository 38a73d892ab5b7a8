/- The walks of the specification's l1Parts, TreeOk and TreeParts: what they answer. No conditions. -/
import Derived.Test.YtbigchdhpdgicaaDoorPart03
import Derived.Test.YtbigchdhpdgicaaDoorPart00
import Derived.Test.YtbigchdhpdgicaaDoorPart01
import Derived.Deep.RegionLaw
import Derived.Deep.CutRange
import Derived.OneCell
import Derived.Deep.QuietTactic
import Derived.BigQuiet
import Derived.Maps.OwnSet
import Derived.Maps.OwnOps
import Derived.Maps.Views
import Derived.Deep.Draws
namespace Go.Proofs.YtbigchdhpdgicaaDoor
open Go Go.RowKit

def PartsSaid (n : Nat) : Prop := ∀ (t : Tr), tsz t < n → ∀ (P : Nat → Prop) (c : C5) (d : Int) (w : World), (∀ b, P b → b < w.heap.size) → Rep P w t c → 1 ≤ d → d ≤ 7 →
    Calls Tryd.prog 29 #[.agg #[c.c0, c.c1, c.c2, c.c3, c.c4], .int .i64 d] w fun e w' => e = .returned (.int .i64 (pT t d)) ∧ Below w.heap.size w w'

set_option maxHeartbeats 400000 in
theorem l1Parts_step (n : Nat) (IH : PartsSaid n) : PartsSaid (n + 1) := by
  intro t hn P c d w hP hrep hd0 hd1
  have HREP := hide hrep
  have HEQ := hide (pT_eq t d)
  obtain ⟨c0, c1, c2, c3, c4⟩ := c
  obtain ⟨e0, e1, e2, -, -, -, ⟨a3, cap3, e3, -, -⟩, a, cap, e4, hlen, hks⟩ := hrep.open
  simp only at e0 e1 e2 e3 e4
  subst e0 e1 e2 e3 e4
  have HP := hide hP; have HI := hide IH; have HK := hide hks
  clear hrep hP IH hks
  have hbx : ∀ o, Below w.heap.size w (w.alloc o) := fun o => (Below.refl _ _).alloc (Nat.le_refl _) o
  have HBX := hide hbx; clear hbx
  by_cases h6 : 6 < d
  · go_enter Tryd.func29, Tryd.ntmps29
    go_wp2_with fail
    go_ret
    refine ⟨?_, unhide HBX _⟩
    rw [unhide HEQ, if_pos (Or.inl h6)]
    rfl
  · have hal : ∀ o, Calls Tryd.prog 40 #[.agg #[.int .i64 t.sort, .int .i64 t.num, .string t.text, .slice a3 t.names.length cap3, .slice a t.kids.length cap]] (w.alloc o) fun e w' => e = .returned (.bool (aloneB t)) ∧ Below (w.alloc o).heap.size (w.alloc o) w' := fun o =>
      l1Alone_any t P ⟨_, _, _, _, _⟩ (w.alloc o) (fun b hb => Nat.lt_of_lt_of_le (unhide HP b hb) (unhide HBX o).size) (Rep.carry (fun b hb => (unhide HBX o).block b (unhide HP b hb)) (fun _ h => h) _ _ (unhide HREP))
    have HAL := hide hal; clear hal
    by_cases ha : aloneB t = true
    · go_enter Tryd.func29, Tryd.ntmps29
      go_wp2_with (go_at_call 40; refine (unhide HAL _).mono ?_; rintro e w' ⟨rfl, hb'⟩)
      obtain ⟨q0, -, hb0⟩ := box1 hb'
      have hpk : pT t d = pK t.kids d 1 := by rw [unhide HEQ, if_neg (by simp [ha]; omega)]
      have HPK := hide hpk
      clear hb' hpk HEQ HAL
      generalize hks : t.kids = ks at *
      have HKS := hide hks; clear hks
      go_loopw [5, 6] (fun m i wr => ∃ (k : Nat) (q : Int), k ≤ ks.length ∧ i = .int .i64 k ∧ m = .int .i64 q ∧ 1 ≤ q ∧ q ≤ 120 ∧ Hid (pK (ks.drop k) d q = pK ks d 1) ∧ wr.cell? ⟨w.heap.size, 4, none⟩ = some (.slice a ks.length cap) ∧ w.heap.size < wr.heap.size ∧ Below w.heap.size w wr) (fun _ i _ => ks.length - (intOf i).toNat)
      case atStart => exact ⟨0, 1, Nat.zero_le _, rfl, rfl, by omega, by omega, rfl, q0.cell (i := 4) (by omega), q0.lt, hb0⟩
      case round =>
        obtain ⟨k, q, hk, rfl, rfl, hq0, hq1, HQ, hbox, hbs, hb⟩ := hrel
        by_cases hlt : k < ks.length
        · obtain ⟨b, o, c, rfl, hpb, hcell, hrep⟩ := unhide HK k hlt
          have hcell' := hcell.carry (hb.block b (unhide HP b hpb))
          obtain ⟨c0, c1, c2, c3, c4⟩ := c
          obtain ⟨e0, e1, e2, e3, e4⟩ := hcell'
          simp only at e0 e1 e2 e3 e4
          have hmem : ks[k] ∈ t.kids := by rw [unhide HKS]; exact List.getElem_mem hlt
          have hsm : tsz ks[k] < n := by have := tsz_kid hmem; omega
          have hcall := unhide HI ks[k] hsm P ⟨c0, c1, c2, c3, c4⟩ (d + 1) wr (fun b hb' => Nat.lt_of_lt_of_le (unhide HP b hb') hb.size) (Rep.carry (fun b hb' => hb.block b (unhide HP b hb')) (fun _ h => h) _ _ hrep) (by omega) (by omega)
          have hst := pK_step hlt d q
          have hbd := pT_bd ks[k] (d + 1)
          generalize pT ks[k] (d + 1) = r at hcall hst hbd
          have HCALL := hide hcall; have HST := hide hst
          clear hrep hcell hpb hmem hcall hst
          by_cases hbad : r < 0 ∨ 120 < q + r
          · have hfin : pT t d = -1 := by rw [unhide HPK, ← HQ.out, unhide HST, if_pos hbad]
            have HFIN := hide hfin; clear hfin
            rcases hbad with hbad | hbad
            · go_wp2_with (go_at_call 29; refine (unhide HCALL).mono ?_; rintro e w2 ⟨rfl, hb2⟩)
              go_ret
              exact ⟨by rw [unhide HFIN]; rfl, hb.trans (hb2.mono hb.size)⟩
            · have hr0 : 0 ≤ r := by omega
              go_wp2_with (go_at_call 29; refine (unhide HCALL).mono ?_; rintro e w2 ⟨rfl, hb2⟩)
              go_ret
              exact ⟨by rw [unhide HFIN]; rfl, hb.trans (hb2.mono hb.size)⟩
          · have hr0 : 0 ≤ r := by omega
            have hr1 : q + r ≤ 120 := by omega
            have hfin : pK (ks.drop (k + 1)) d (q + r) = pK ks d 1 := by rw [← HQ.out, unhide HST, if_neg hbad]
            have HFIN := hide hfin
            clear hfin hbad
            go_wp2_with (go_at_call 29; refine (unhide HCALL).mono ?_; rintro e w2 ⟨rfl, hb2⟩)
            go_roundw
            case rel => exact ⟨k + 1, _, by omega, by go_num, rfl, by omega, by omega, unhide HFIN, by rw [hb2.cell hbs]; exact hbox, Nat.lt_of_lt_of_le hbs hb2.size, hb.trans (hb2.mono hb.size)⟩
            case measure => simp [intOf]; omega
        · go_wp2_with fail
          go_ret
          refine ⟨?_, hb⟩
          rw [unhide HPK, ← HQ.out, List.drop_of_length_le (by omega), pK]
          rfl
    · have ha' : aloneB t = false := by simpa using ha
      clear ha
      go_enter Tryd.func29, Tryd.ntmps29
      go_wp2_with (go_at_call 40; refine (unhide HAL _).mono ?_; rintro e w' ⟨rfl, hb'⟩)
      go_ret
      refine ⟨?_, (box1 hb').2.2⟩
      rw [unhide HEQ, if_pos (Or.inr ha')]
      rfl

theorem l1Parts_all : ∀ n, PartsSaid n
  | 0 => fun t h => by omega
  | n + 1 => l1Parts_step n (l1Parts_all n)

set_option maxHeartbeats 400000 in
theorem specTreeOk_any (t : Tr) (P : Nat → Prop) (c : C5) (w : World) (hP : ∀ b, P b → b < w.heap.size) (hrep : Rep P w t c) :
    Calls Tryd.prog 21 #[.agg #[c.c0, c.c1, c.c2, c.c3, c.c4]] w fun e w' => e = .returned (.bool (decide (0 < pT t 1))) ∧ Below w.heap.size w w' := by
  have hbx : ∀ o, Below w.heap.size w (w.alloc o) := fun o => (Below.refl _ _).alloc (Nat.le_refl _) o
  have hcall : ∀ o, Calls Tryd.prog 29 #[.agg #[c.c0, c.c1, c.c2, c.c3, c.c4], .int .i64 1] (w.alloc o) fun e w' => e = .returned (.int .i64 (pT t 1)) ∧ Below w.heap.size w w' := fun o =>
    (l1Parts_all (tsz t + 1) t (by omega) P c 1 (w.alloc o) (fun b hb => Nat.lt_of_lt_of_le (hP b hb) (hbx o).size) (Rep.carry (fun b hb => (hbx o).block b (hP b hb)) (fun _ h => h) _ _ hrep) (by omega) (by omega)).mono
      fun e w' ⟨h1, h2⟩ => ⟨h1, (hbx o).trans (h2.mono (hbx o).size)⟩
  generalize pT t 1 = r at *
  have HCALL := hide hcall
  clear hbx hcall hP hrep
  go_enter Tryd.func21, Tryd.ntmps21
  go_wp2_with (go_at_call 29; refine (unhide HCALL _).mono ?_; rintro e w2 ⟨rfl, hb2⟩)
  go_ret
  exact ⟨rfl, hb2⟩
end Go.Proofs.YtbigchdhpdgicaaDoor

/- The walks of the specification's EventOk and the program's. Conditions: the table treeFields is as the program lays it (for the program's). -/

namespace Go.Proofs.YtbigchdhpdgicaaDoor
open Go Go.RowKit

/-- Whether an event is ok. -/
def evOkB (ty : ByteArray) (ver : Int) (t : Tr) : Bool := nameOkB ty && decide (1 ≤ ver ∧ ver ≤ 12) && decide (t.sort = 5) && decide (0 < pT t 1)

set_option maxRecDepth 100000 in
set_option maxHeartbeats 1600000 in
theorem specEventOk_any (ty : ByteArray) (ver : Int) (t : Tr) (P : Nat → Prop) (c : C5) (w : World) (hP : ∀ b, P b → b < w.heap.size) (hrep : Rep P w t c) (hty : ty.size ≤ 9223372036854775807) (_hver : I64 ver) :
    Calls Tryd.prog 15 #[.agg #[.string ty, .int .i64 ver, c.c0, c.c1, c.c2, c.c3, c.c4]] w fun e w' => e = .returned (.bool (evOkB ty ver t)) ∧ Below w.heap.size w w' := by
  obtain ⟨c0, c1, c2, c3, c4⟩ := c
  have hbx : ∀ o, Below w.heap.size w (w.alloc o) := fun o => (Below.refl _ _).alloc (Nat.le_refl _) o
  have hn := fun W => l6NameOk_any ty W hty
  have hin := fun W => l6In_any ver 1 12 W
  have hok := fun (W : World) (hW : Below w.heap.size w W) => specTreeOk_any t P ⟨c0, c1, c2, c3, c4⟩ W (fun b hb => Nat.lt_of_lt_of_le (hP b hb) hW.size) (Rep.carry (fun b hb => hW.block b (hP b hb)) (fun _ h => h) _ _ hrep)
  obtain ⟨e0, -, -, his, -⟩ := hrep.open
  simp only at e0
  subst e0
  have HV := hide (show evOkB ty ver t = (nameOkB ty && decide (1 ≤ ver ∧ ver ≤ 12) && decide (t.sort = 5) && decide (0 < pT t 1)) from rfl)
  generalize evOkB ty ver t = res at *
  generalize nameOkB ty = b1 at *
  generalize decide (1 ≤ ver ∧ ver ≤ 12) = b2 at *
  generalize decide (0 < pT t 1) = b4 at *
  have HN := hide hn; have HIN := hide hin; have HOK := hide hok; have HBX := hide hbx
  clear hn hin hok hbx hP hrep
  generalize t.sort = srt at *
  cases b1 with
  | false =>
    go_enter Tryd.func15, Tryd.ntmps15
    go_wp2_with (go_at_call 14; refine (unhide HN _).mono ?_; rintro e w' ⟨rfl, rfl⟩)
    go_ret
    exact ⟨by rw [unhide HV]; simp, unhide HBX _⟩
  | true =>
    cases b2 with
    | false =>
      go_enter Tryd.func15, Tryd.ntmps15
      go_wp2_with (first
        | (go_at_call 14; refine (unhide HN _).mono ?_; rintro e w' ⟨rfl, rfl⟩)
        | (go_at_call 13; refine (unhide HIN _).mono ?_; rintro e w' ⟨rfl, rfl⟩))
      go_ret
      exact ⟨by rw [unhide HV]; simp, unhide HBX _⟩
    | true =>
      by_cases h5 : srt = 5
      · subst h5
        go_enter Tryd.func15, Tryd.ntmps15
        go_wp2_with (first
          | (go_at_call 14; refine (unhide HN _).mono ?_; rintro e w' ⟨rfl, rfl⟩)
          | (go_at_call 13; refine (unhide HIN _).mono ?_; rintro e w' ⟨rfl, rfl⟩)
          | (go_at_call 21; refine (unhide HOK _ (unhide HBX _)).mono ?_; rintro e w' ⟨rfl, hb⟩))
        go_ret
        exact ⟨by rw [unhide HV]; simp, (unhide HBX _).trans (hb.mono (unhide HBX _).size)⟩
      · have h5' : (srt == 5) = false := by simpa using h5
        have HS := hide h5
        clear h5
        go_enter Tryd.func15, Tryd.ntmps15
        go_wp2_with (first
          | (go_at_call 14; refine (unhide HN _).mono ?_; rintro e w' ⟨rfl, rfl⟩)
          | (go_at_call 13; refine (unhide HIN _).mono ?_; rintro e w' ⟨rfl, rfl⟩))
        go_ret
        exact ⟨by rw [unhide HV]; simp [unhide HS], unhide HBX _⟩

set_option maxRecDepth 100000 in
set_option maxHeartbeats 1600000 in
theorem implEventOk_any (ty : ByteArray) (ver : Int) (t : Tr) (P : Nat → Prop) (c : C5) (w : World) (hP : ∀ b, P b → b < w.heap.size) (hrep : Rep P w t c) (hty : ty.size ≤ 9223372036854775807) (_hver : I64 ver) (hT : Tab w) :
    Calls Tryd.prog 54 #[.agg #[.string ty, .int .i64 ver, c.c0, c.c1, c.c2, c.c3, c.c4]] w fun e w' => e = .returned (.bool (evOkB ty ver t)) ∧ Below w.heap.size w w' := by
  obtain ⟨c0, c1, c2, c3, c4⟩ := c
  have hbx : ∀ o, Below w.heap.size w (w.alloc o) := fun o => (Below.refl _ _).alloc (Nat.le_refl _) o
  have hn := fun W => nameOk_any ty W hty
  have hok := fun (W : World) (hW : Below w.heap.size w W) => implTreeOk_any t P ⟨c0, c1, c2, c3, c4⟩ W (fun b hb => Nat.lt_of_lt_of_le (hP b hb) hW.size) (Rep.carry (fun b hb => hW.block b (hP b hb)) (fun _ h => h) _ _ hrep) (hT.of_block (hW.block 0 hT.lt))
  obtain ⟨e0, -, -, his, -⟩ := hrep.open
  simp only at e0
  subst e0
  have HV := hide (show evOkB ty ver t = (nameOkB ty && decide (1 ≤ ver ∧ ver ≤ 12) && decide (t.sort = 5) && decide (0 < pT t 1)) from rfl)
  generalize evOkB ty ver t = res at *
  generalize nameOkB ty = b1 at *
  generalize decide (0 < pT t 1) = b4 at *
  have HN := hide hn; have HOK := hide hok; have HBX := hide hbx
  clear hn hok hbx hP hrep hT
  generalize t.sort = srt at *
  cases b1 with
  | false =>
    go_enter Tryd.func54, Tryd.ntmps54
    go_wp2_with (go_at_call 34; refine (unhide HN _).mono ?_; rintro e w' ⟨rfl, rfl⟩)
    go_ret
    exact ⟨by rw [unhide HV]; simp, unhide HBX _⟩
  | true =>
    by_cases h1 : 1 ≤ ver
    · by_cases h2 : ver ≤ 12
      · by_cases h5 : srt = 5
        · subst h5
          go_enter Tryd.func54, Tryd.ntmps54
          go_wp2_with (first
            | (go_at_call 34; refine (unhide HN _).mono ?_; rintro e w' ⟨rfl, rfl⟩)
            | (go_at_call 58; refine (unhide HOK _ (unhide HBX _)).mono ?_; rintro e w' ⟨rfl, hb⟩))
          go_ret
          exact ⟨by rw [unhide HV]; simp [h1, h2], (unhide HBX _).trans (hb.mono (unhide HBX _).size)⟩
        · have h5' : (srt == 5) = false := by simpa using h5
          have HS := hide h5
          clear h5
          go_enter Tryd.func54, Tryd.ntmps54
          go_wp2_with (go_at_call 34; refine (unhide HN _).mono ?_; rintro e w' ⟨rfl, rfl⟩)
          go_ret
          exact ⟨by rw [unhide HV]; simp [unhide HS], unhide HBX _⟩
      · go_enter Tryd.func54, Tryd.ntmps54
        go_wp2_with (go_at_call 34; refine (unhide HN _).mono ?_; rintro e w' ⟨rfl, rfl⟩)
        go_ret
        exact ⟨by rw [unhide HV]; simp; intros; omega, unhide HBX _⟩
    · go_enter Tryd.func54, Tryd.ntmps54
      go_wp2_with (go_at_call 34; refine (unhide HN _).mono ?_; rintro e w' ⟨rfl, rfl⟩)
      go_ret
      exact ⟨by rw [unhide HV]; simp; intros; omega, unhide HBX _⟩
end Go.Proofs.YtbigchdhpdgicaaDoor

/- The walk of the specification's EventPack: whatever event comes in, its bytes in new memory, or none. No conditions. -/

namespace Go.Proofs.YtbigchdhpdgicaaDoor
open Go Go.RowKit

theorem l4Tree_all : ∀ n, TrSaid n
  | 0 => fun t h => by omega
  | n + 1 => l4Tree_step n (l4Tree_all n)

/-- What EventPack gives. -/
def packB (ty : ByteArray) (ver : Int) (t : Tr) : List UInt8 := if evOkB ty ver t then eventB ty ver t else []

theorem evOk_parts {ty : ByteArray} {ver : Int} {t : Tr} (h : evOkB ty ver t = true) : 1 ≤ ty.size ∧ ty.size ≤ 8 ∧ 1 ≤ ver ∧ ver ≤ 12 ∧ t.sort = 5 ∧ 0 < pT t 1 := by
  unfold evOkB nameOkB at h
  simp at h
  omega

theorem ByRow.empty {w : World} {g base : Nat} {f : Nat → Value} (h : w.rowIs g 5 0 f) (hb : base ≤ g) : ByRow base w (.slice (some ⟨g, 0, none⟩) 0 0) [] := by
  obtain ⟨c, h1, h2, -⟩ := h
  exact ⟨rfl, Or.inr ⟨g, 0, c, rfl, hb, h1, Nat.le_refl _, by decide, h2, by simp [bc]⟩⟩

set_option maxRecDepth 100000 in
set_option maxHeartbeats 3200000 in
theorem specEventPack_any (ty : ByteArray) (ver : Int) (t : Tr) (P : Nat → Prop) (c : C5) (w : World) (hP : ∀ b, P b → b < w.heap.size) (hrep : Rep P w t c) (hty : ty.size ≤ 9223372036854775807) (hver : I64 ver) :
    Calls Tryd.prog 23 #[.agg #[.string ty, .int .i64 ver, c.c0, c.c1, c.c2, c.c3, c.c4]] w fun e w' => ByNew w w' e (packB ty ver t) := by
  obtain ⟨c0, c1, c2, c3, c4⟩ := c
  have hbx : ∀ (W : World) o, Below W.heap.size W (W.alloc o) := fun W o => (Below.refl _ _).alloc (Nat.le_refl _) o
  have hok := fun (W : World) (hW : Below w.heap.size w W) => specEventOk_any ty ver t P ⟨c0, c1, c2, c3, c4⟩ W (fun b hb => Nat.lt_of_lt_of_le (hP b hb) hW.size) (Rep.carry (fun b hb => hW.block b (hP b hb)) (fun _ h => h) _ _ hrep) hty hver
  have HOK := hide hok; have HBX := hide hbx
  clear hok hbx
  by_cases h : evOkB ty ver t = true
  · obtain ⟨-, h8, hv1, hv12, -, hpt⟩ := evOk_parts h
    have HE : Hid (packB ty ver t = (shortB ty ++ [UInt8.ofNat ver.toNat]) ++ treeB t) := by show packB ty ver t = _; rw [packB, if_pos h]; rfl
    have hlen : ((shortB ty ++ [UInt8.ofNat ver.toNat]) ++ treeB t).length ≤ 9000 := eventB_len h8 hpt
    have HLEN := hide hlen
    have HSH := hide (fun W => l4Short_any ty W (by omega))
    have HTR := hide (fun (W : World) (hW : Below w.heap.size w W) => l4Tree_all (tsz t + 1) t (by omega) P ⟨c0, c1, c2, c3, c4⟩ 1 W (fun b hb => Nat.lt_of_lt_of_le (hP b hb) hW.size) (Rep.carry (fun b hb => hW.block b (hP b hb)) (fun _ h => h) _ _ hrep) hpt)
    rw [h] at HOK
    have HK := hide (bcI ver (by omega) (by omega))
    have hwrap : IntKind.u8.wrap ver = ver := wraps_u8 ver (by omega) (by omega)
    have hsl := shortB_len ty
    have HSL := hide hsl
    clear h hpt hlen hsl hP hrep hver
    go_enter Tryd.func23, Tryd.ntmps23
    go_wp2_with fail
    refine (unhide HOK _ (unhide HBX _ _)).mono ?_
    rintro e w1 ⟨rfl, hb1⟩
    obtain ⟨q1, hs1, hb01⟩ := ebox1 hb1
    have hbo : Below (w.heap.size + 1) (w.alloc (.cells #[.string ty, .int .i64 ver, c0, c1, c2, c3, c4] 43)) w1 := by have := hb1; rw [World.size_alloc] at this; exact this
    have k0 := q1.cell (i := 0) (by omega); have k1 := q1.cell (i := 1) (by omega)
    simp only [row7] at k0 k1
    have k0a : ∀ ob, (w1.alloc ob).cell? ⟨w.heap.size, 0, none⟩ = some (.string ty) := fun ob => (q1.alloc ob).cell (i := 0) (by omega)
    have Q1 := hide q1; have HB1 := hide hb01; have HBO := hide hbo
    clear q1 hb1 hb01 hbo
    go_upto_region 3 with fail
    go_cut [3] from 8 (fun s3 wx => ∃ a3 n3 cap3, s3 = .slice a3 n3 cap3 ∧ Hid (TAt w (.cells #[.string ty, .int .i64 ver, c0, c1, c2, c3, c4] 43) wx (.slice a3 n3 cap3) n3 (shortB ty ++ [UInt8.ofNat ver.toNat])))
    case first =>
      go_region_law (first
        | (rw [if_pos (by first | rfl | simp [Region.wanted])]; go_simp; refine (unhide HSH w1.drew).mono ?_
           rintro e w2 ⟨a2, n2, cap2, rfl, hn2, hr2, hb2⟩
           have hb12 : Below w1.heap.size w1 w2 := (Below.refl _ w1).drew.trans hb2
           have k1' := ((unhide Q1).of_block (hb12.block w.heap.size (by omega))).cell (i := 1) (by omega)
           simp only [row7] at k1'
           have HR2 := hide ((ByRow.base (base' := w.heap.size + 1) hr2 hs1))
           have HN2 := hide hn2
           have HB12 := hide hb12
           clear hr2 hn2 hb12 hb2)
        | (rw [if_pos (by first | rfl | simp [Region.wanted])]; go_simp; refine (unhide HSH (w1.alloc (.cells #[.int .u8 ver] 5)).drew).mono ?_
           rintro e w2 ⟨a2, n2, cap2, rfl, hn2, hr2, hb2⟩
           have hz : (w1.alloc (.cells #[.int .u8 ver] 5)).drew.heap.size = w1.heap.size + 1 := World.size_alloc _ _
           have hb12 : Below w1.heap.size w1 w2 := ((Below.refl _ w1).alloc (Nat.le_refl _) (.cells #[.int .u8 ver] 5)).drew.trans (hb2.mono (by omega))
           have HCB : Hid (∀ j u, (bc [UInt8.ofNat ver.toNat])[j]? = some u → w2.cell? ((⟨w1.heap.size, 0, none⟩ : Addr).add j) = some u) := fun j u hj => by
             rw [unhide HK] at hj
             have h1 := cell_one w1 _ 5 j u hj
             rw [Addr.add_lit] at h1 ⊢
             rw [World.cell?_of_block (w := w1.alloc (.cells #[.int .u8 ver] 5)) (hb2.block w1.heap.size (by omega))]
             exact h1
           have HR2B := hide ((ByRow.base (base' := w.heap.size + 1) hr2 (by omega)))
           have HN2 := hide hn2
           have HB12 := hide hb12
           clear hr2 hn2 hb12 hb2 hz)
        | (refine step_append_bytes _ (by rfl) _ _ (by rfl) (w.heap.size + 1) (.slice a2 n2 cap2) (shortB ty) [UInt8.ofNat ver.toNat] (by rfl) (World.ownsRow.alloc (unhide HR2) _) ⟨w2.heap.size, 0, none⟩ 1 1 (by rfl) (by rfl) (by decide) (by rw [unhide HK]; exact cell_one _ _ _) (by rw [unhide HSL]; simp; omega) (by have := (unhide HB12).size; simp; omega) ?_
           intro a3 n3 cap3 w3 HN3 HR3 HG3
           have HT3 : Hid (TAt w (.cells #[.string ty, .int .i64 ver, c0, c1, c2, c3, c4] 43) w3 (.slice a3 n3 cap3) n3 (shortB ty ++ [UInt8.ofNat ver.toNat])) := ⟨HR3.out, (unhide HBO).trans (((unhide HB12).mono hs1).trans (((Below.refl _ w2).alloc (by have := (unhide HB12).size; omega) _).trans (ByRow.below (World.ownsRow.alloc (unhide HR2) _) HG3.out (by have := (unhide HB12).size; simp; omega)))), HN3.out⟩
           clear HR3 HN3 HG3)
        | (refine step_append_bytes _ (by rfl) _ _ (by rfl) (w.heap.size + 1) (.slice a2 n2 cap2) (shortB ty) [UInt8.ofNat ver.toNat] (by rfl) (unhide HR2B) ⟨w1.heap.size, 0, none⟩ 1 1 (by rfl) (by rfl) (by decide) (unhide HCB) (by rw [unhide HSL]; simp; omega) (by have := (unhide HB12).size; omega) ?_
           intro a3 n3 cap3 w3 HN3 HR3 HG3
           have HT3 : Hid (TAt w (.cells #[.string ty, .int .i64 ver, c0, c1, c2, c3, c4] 43) w3 (.slice a3 n3 cap3) n3 (shortB ty ++ [UInt8.ofNat ver.toNat])) := ⟨HR3.out, (unhide HBO).trans (((unhide HB12).mono hs1).trans (ByRow.below (unhide HR2B) HG3.out (by have := (unhide HB12).size; omega))), HN3.out⟩
           clear HR3 HN3 HG3))
      all_goals
        go_wp2_with fail
        go_meet
        exact ⟨a3, n3, cap3, rfl, HT3⟩
    case rest =>
      obtain ⟨a3, n3, cap3, rfl, HT3⟩ := hcut
      have qc := (row7_alloc w (.string ty) (.int .i64 ver) c0 c1 c2 c3 c4 43).of_block (HT3.out.below.block _ (by omega))
      clear k0 k1 k0a
      have k2 := qc.cell (i := 2) (by omega); have k3 := qc.cell (i := 3) (by omega); have k4 := qc.cell (i := 4) (by omega); have k5 := qc.cell (i := 5) (by omega); have k6 := qc.cell (i := 6) (by omega)
      simp only [row7] at k2 k3 k4 k5 k6
      clear qc
      go_wp2_with fail
      refine (unhide HTR _ HT3.out.old).mono ?_
      intro e w6 hnew6
      obtain ⟨g6, n6, cap6, rfl, hn6, hc6, hb6⟩ := hnew6.form (by rw [treeB_eq]; simp)
      have HC6 := hide hc6; have HB6 := hide hb6; have HN6 := hide hn6; have HBS := hide (Nat.le_trans HT3.out.size hb6.size)
      clear hnew6 hc6 hb6 hn6 k2 k3 k4 k5 k6
      go_wp2_with (at_builtin; refine append_bytes _ rfl _ _ rfl (w.heap.size + 1) (.slice a3 n3 cap3) (shortB ty ++ [UInt8.ofNat ver.toNat]) (treeB t) rfl (HT3.out.row.stay (unhide HB6)) ⟨g6, 0, none⟩ n6 cap6 rfl (unhide HN6) (unhide HC6) (by have := unhide HLEN; rw [List.length_append] at this; omega) (unhide HBS) ?_; intro a7 n7 cap7 w7 HN7 HR7 HG7)
      have hst7 := HT3.out.app (unhide HB6) HN7.out HR7.out HG7.out
      rw [← HE.out] at hst7
      have HST7 := hide hst7
      clear hst7 HN7 HR7 HG7 HB6 HN6 HC6 HBS
      go_ret
      exact (unhide HST7).end
  · have HE : Hid (packB ty ver t = []) := by show packB ty ver t = _; rw [packB, if_neg h]
    have hf : evOkB ty ver t = false := by simpa using h
    rw [hf] at HOK
    clear h hf hP hrep hver
    go_enter Tryd.func23, Tryd.ntmps23
    go_wp2_with fail
    refine (unhide HOK _ (unhide HBX _ _)).mono ?_
    rintro e w1 ⟨rfl, hb1⟩
    obtain ⟨-, -, hb01⟩ := ebox1 hb1
    have HB1 := hide hb01
    clear hb1 hb01
    go_wp2_with fail
    go_ret
    refine ⟨_, _, _, rfl, by rw [HE.out]; rfl, by rw [HE.out]; exact ByRow.empty (f := fun _ => .int .u8 0) (World.rowIs_alloc w1 #[] 5 _ (fun i hi => by have hi' : i < 0 := hi; omega)) (unhide HB1).size, (unhide HB1).alloc (unhide HB1).size _⟩
end Go.Proofs.YtbigchdhpdgicaaDoor

/- The bytes of a record, as lists; whether a record is ok. No program, no conditions. -/

namespace Go.Proofs.YtbigchdhpdgicaaDoor
open Go Go.RowKit

def bA (l : List UInt8) : ByteArray := ⟨l.toArray⟩
theorem bA_append (a b : List UInt8) : bA a ++ bA b = bA (a ++ b) := by apply ByteArray.ext; simp [bA]
theorem bA_size (l : List UInt8) : (bA l).size = l.length := by show l.toArray.size = _; simp
def twoB (n : Nat) : List UInt8 := [UInt8.ofNat (n / 256), UInt8.ofNat (n % 256)]
def evB (e : Ev) : List UInt8 := packB e.ty e.ver e.t
def evsB : List Ev → List UInt8
  | [] => []
  | e :: r => twoB (evB e).length ++ evB e ++ evsB r
theorem evB_len (e : Ev) : (evB e).length ≤ 9000 := by
  unfold evB packB
  split
  · rename_i h
    obtain ⟨-, h8, -, -, -, hpt⟩ := evOk_parts h
    exact eventB_len h8 hpt
  · simp
theorem evsB_append (a b : List Ev) : evsB (a ++ b) = evsB a ++ evsB b := by
  induction a with
  | nil => rfl
  | cons x r ih => simp [evsB, ih]
theorem evsB_take (es : List Ev) (k : Nat) (h : k < es.length) : evsB (es.take (k + 1)) = evsB (es.take k) ++ (twoB (evB es[k]).length ++ evB es[k]) := by
  rw [List.take_succ_eq_append_getElem h, evsB_append]; simp [evsB]
theorem evsB_len (es : List Ev) : (evsB es).length ≤ es.length * 9002 := by
  induction es with
  | nil => simp [evsB]
  | cons e r ih => have := evB_len e; simp [evsB, twoB]; omega
def headT (key : ByteArray) (n : Nat) : List UInt8 := shortB key ++ [UInt8.ofNat n]
def recB (key : ByteArray) (es : List Ev) : List UInt8 := headT key es.length ++ evsB es
def evOkE (e : Ev) : Bool := evOkB e.ty e.ver e.t
def headB (pos : Int) (key : ByteArray) (n : Nat) : Bool := decide (1 ≤ pos ∧ pos ≤ 999999) && (nameOkB key && decide (1 ≤ (n : Int) ∧ (n : Int) ≤ 40))
def recOkB (pos : Int) (key : ByteArray) (es : List Ev) : Bool := headB pos key es.length && es.all evOkE && decide ((recB key es).length ≤ 2000)
def recPackB (pos : Int) (key : ByteArray) (es : List Ev) : List UInt8 := if recOkB pos key es then recB key es else []
theorem evB_nil {e : Ev} (h : evOkE e = false) : evB e = [] := by
  have h' : evOkB e.ty e.ver e.t = false := h
  unfold evB packB; rw [h']; rfl
theorem evB_pos {e : Ev} (h : evOkE e = true) : 0 < (evB e).length := by
  have h' : evOkB e.ty e.ver e.t = true := h
  unfold evB packB; rw [if_pos h']
  unfold eventB
  simp [shortB]
theorem name_size {key : ByteArray} (h : nameOkB key = true) : key.size ≤ 8 := by unfold nameOkB at h; simp at h; omega
theorem headB_parts {pos : Int} {key : ByteArray} {n : Nat} (h : headB pos key n = true) : (1 ≤ pos ∧ pos ≤ 999999) ∧ nameOkB key = true ∧ 1 ≤ (n : Int) ∧ (n : Int) ≤ 40 := by
  unfold headB at h
  simp only [Bool.and_eq_true, decide_eq_true_eq] at h
  exact h
theorem all_take_succ {es : List Ev} {k : Nat} (h : k < es.length) (p : Ev → Bool) : (es.take (k + 1)).all p = ((es.take k).all p && p es[k]) := by
  rw [List.take_succ_eq_append_getElem h, List.all_append]; simp only [List.all_cons, List.all_nil, Bool.and_true]
theorem all_false_at {es : List Ev} {k : Nat} (h : k < es.length) {p : Ev → Bool} (hp : p es[k] = false) : es.all p = false := by
  rw [List.all_eq_false]; exact ⟨_, List.getElem_mem h, by simp [hp]⟩

theorem ByRow.strA {base : Nat} {w : World} {v : Value} {l : List UInt8} (h : ByRow base w v l) : Sem.run Tryd.prog (convert 55 9 v) w = .ok (.string (bA l)) w := h.str
theorem ByRow.strB {base : Nat} {w : World} {v : Value} {l : List UInt8} (h : ByRow base w v l) (o : Obj) : Sem.run Tryd.prog (convert 55 9 v) (w.alloc o) = .ok (.string (bA l)) (w.alloc o) := ByRow.str (World.ownsRow.alloc h o)

/-- A short row of bytes that was just built, read as a string. -/
theorem conv_kept1 {W w' : World} {a : Int} (h : Below (W.alloc (.cells #[.int .u8 a] 5)).heap.size (W.alloc (.cells #[.int .u8 a] 5)) w') (ha : 0 ≤ a ∧ a < 256) :
    Sem.run Tryd.prog (convert 55 9 (.slice (some ⟨W.heap.size, 0, none⟩) 1 1)) w' = .ok (.string (bA [UInt8.ofNat a.toNat])) w' := by
  have := run_convert_bytes_back (P := Tryd.prog) w' 55 9 5 ⟨W.heap.size, 0, none⟩ 1 [UInt8.ofNat a.toNat] Tryd.underlying55 Tryd.underlying5 Tryd.underlying9 (fun j hj => by
    have hj' : j < 1 := by simpa using hj
    obtain rfl : j = 0 := by omega
    rw [Addr.add_lit, h.cell (by simp)]
    have e : ((UInt8.ofNat a.toNat).toNat : Int) = a := by rw [UInt8.toNat_ofNat']; omega
    simp only [List.getElem_cons_zero]; rw [e]; go_simp)
  simpa [bA] using this
theorem conv_cell1 {w' : World} {g : Nat} {a : Int} (h : w'.cell? ⟨g, 0, none⟩ = some (.int .u8 a)) (ha : 0 ≤ a ∧ a < 256) :
    Sem.run Tryd.prog (convert 55 9 (.slice (some ⟨g, 0, none⟩) 1 1)) w' = .ok (.string (bA [UInt8.ofNat a.toNat])) w' := by
  have := run_convert_bytes_back (P := Tryd.prog) w' 55 9 5 ⟨g, 0, none⟩ 1 [UInt8.ofNat a.toNat] Tryd.underlying55 Tryd.underlying5 Tryd.underlying9 (fun j hj => by
    have hj' : j < 1 := by simpa using hj
    obtain rfl : j = 0 := by omega
    rw [Addr.add_lit, h]
    have e : ((UInt8.ofNat a.toNat).toNat : Int) = a := by rw [UInt8.toNat_ofNat']; omega
    simp only [List.getElem_cons_zero]; rw [e])
  simpa [bA] using this
theorem conv_kept2 {W w' : World} {a b : Int} (h : Below (W.alloc (.cells #[.int .u8 a, .int .u8 b] 5)).heap.size (W.alloc (.cells #[.int .u8 a, .int .u8 b] 5)) w') (ha : 0 ≤ a ∧ a < 256) (hb : 0 ≤ b ∧ b < 256) :
    Sem.run Tryd.prog (convert 55 9 (.slice (some ⟨W.heap.size, 0, none⟩) 2 2)) w' = .ok (.string (bA [UInt8.ofNat a.toNat, UInt8.ofNat b.toNat])) w' := by
  have := run_convert_bytes_back (P := Tryd.prog) w' 55 9 5 ⟨W.heap.size, 0, none⟩ 2 [UInt8.ofNat a.toNat, UInt8.ofNat b.toNat] Tryd.underlying55 Tryd.underlying5 Tryd.underlying9 (fun j hj => by
    have hj' : j < 2 := by simpa using hj
    have e : ((UInt8.ofNat a.toNat).toNat : Int) = a := by rw [UInt8.toNat_ofNat']; omega
    have e2 : ((UInt8.ofNat b.toNat).toNat : Int) = b := by rw [UInt8.toNat_ofNat']; omega
    rw [Addr.add_lit, h.cell (by simp)]
    rcases (show j = 0 ∨ j = 1 by omega) with rfl | rfl
    · simp only [List.getElem_cons_zero]; rw [e]; go_simp
    · simp only [List.getElem_cons_zero, List.getElem_cons_succ]; rw [e2]; go_simp)
  simpa [bA] using this
end Go.Proofs.YtbigchdhpdgicaaDoor

/- What a schema is as plain data, its weight, and how it lies in memory: definitions and small laws, no program. No conditions. -/

namespace Go.Proofs.YtbigchdhpdgicaaDoor
open Go Go.RowKit

/-- A schema as plain data. -/
inductive Kd where
  | mk (sort : Int) (names : List ByteArray) (kids : List Kd)

namespace Kd
def sort : Kd → Int | mk s _ _ => s
def names : Kd → List ByteArray | mk _ n _ => n
def kids : Kd → List Kd | mk _ _ k => k
end Kd

mutual
def wKd : Kd → Nat
  | .mk _ n k => wS n + wKs k
def wKs : List Kd → Nat
  | [] => 0
  | t :: r => 1 + wKd t + wKs r
end

theorem wKs_mem {t : Kd} {l : List Kd} (h : t ∈ l) : wKd t + 1 ≤ wKs l := by
  induction l with
  | nil => cases h
  | cons a r ih =>
    rw [wKs]
    rcases List.mem_cons.1 h with rfl | h
    · omega
    · have := ih h; omega

theorem wKs_len (l : List Kd) : l.length ≤ wKs l := by
  induction l with
  | nil => simp [wKs]
  | cons a r ih => rw [wKs]; simp; omega

theorem wKs_take (ks : List Kd) (k : Nat) (h : k < ks.length) : wKs (ks.take (k + 1)) = wKs (ks.take k) + wKd ks[k] + 1 := by
  induction ks generalizing k with
  | nil => simp at h
  | cons a r ih =>
    cases k with
    | zero => simp [wKs]; omega
    | succ k => simp only [List.take_succ_cons, wKs, List.getElem_cons_succ]; rw [ih k (by simpa using h)]; omega

/-- The three cells of a schema. -/
structure C3 where
  (c0 c1 c2 : Value)

/-- Three cells lie at an offset of a block. -/
def C3.at (w : World) (b o : Nat) (c : C3) : Prop :=
  w.cell? ⟨b, o, none⟩ = some c.c0 ∧ w.cell? ⟨b, o + 1, none⟩ = some c.c1 ∧ w.cell? ⟨b, o + 2, none⟩ = some c.c2

mutual
/-- Three cells are a schema: all that they lead to lies in the world, in blocks of which 'P' holds. -/
def KRep (P : Nat → Prop) (w : World) : Kd → C3 → Prop
  | .mk s ns ks, c => c.c0 = .int .i64 s ∧ I64 s ∧ StrsAt P w c.c1 ns ∧
    ∃ a cap, c.c2 = .slice a ks.length cap ∧ ks.length ≤ 9223372036854775807 ∧ (ks ≠ [] → ∃ b o, a = some ⟨b, o, none⟩ ∧ P b ∧ KRepK P w b o ks)
def KRepK (P : Nat → Prop) (w : World) (b : Nat) (o : Nat) : List Kd → Prop
  | [] => True
  | t :: r => (∃ c, C3.at w b o c ∧ KRep P w t c) ∧ KRepK P w b (o + 3) r
end

theorem KRepK.get {P : Nat → Prop} {w : World} {b o : Nat} {ks : List Kd} (h : KRepK P w b o ks) (i : Nat) (hi : i < ks.length) :
    ∃ c, C3.at w b (o + i * 3) c ∧ KRep P w ks[i] c := by
  induction ks generalizing o i with
  | nil => simp at hi
  | cons t r ih =>
    rw [KRepK] at h
    cases i with
    | zero => exact h.1
    | succ i =>
      obtain ⟨c, h1, h2⟩ := ih h.2 i (by simpa using hi)
      exact ⟨c, by rw [show o + (i + 1) * 3 = o + 3 + i * 3 from by omega]; exact h1, h2⟩

theorem KRepK.mk {P : Nat → Prop} {w : World} {b o : Nat} {ks : List Kd} (h : ∀ i, (hi : i < ks.length) → ∃ c, C3.at w b (o + i * 3) c ∧ KRep P w ks[i] c) : KRepK P w b o ks := by
  induction ks generalizing o with
  | nil => rw [KRepK]; trivial
  | cons t r ih =>
    rw [KRepK]
    refine ⟨h 0 (by simp), ih fun i hi => ?_⟩
    obtain ⟨c, h1, h2⟩ := h (i + 1) (by simpa using hi)
    exact ⟨c, by rw [show o + 3 + i * 3 = o + (i + 1) * 3 from by omega]; exact h1, h2⟩

theorem C3.at.carry {w w' : World} {b o : Nat} {c : C3} (h : C3.at w b o c) (hb : w'.heap[b]? = w.heap[b]?) : C3.at w' b o c := by
  have e : ∀ o', w'.cell? ⟨b, o', none⟩ = w.cell? ⟨b, o', none⟩ := fun o' => World.cell?_of_block (w := w) hb
  obtain ⟨h0, h1, h2⟩ := h
  exact ⟨by rw [e]; exact h0, by rw [e]; exact h1, by rw [e]; exact h2⟩

mutual
theorem KRep.carry {P Q : Nat → Prop} {w w' : World} (hP : ∀ b, P b → w'.heap[b]? = w.heap[b]?) (hQ : ∀ b, P b → Q b) : ∀ (t : Kd) (c : C3), KRep P w t c → KRep Q w' t c
  | .mk s ns ks, c => by
    intro h
    rw [KRep] at h ⊢
    obtain ⟨h0, h3, h6, a, cap, h7, h8, h9⟩ := h
    refine ⟨h0, h3, h6.carry hP hQ, a, cap, h7, h8, fun hk => ?_⟩
    obtain ⟨b, o, e, p, hr⟩ := h9 hk
    exact ⟨b, o, e, hQ b p, KRepK.carry hP hQ b o (hP b p) ks hr⟩
theorem KRepK.carry {P Q : Nat → Prop} {w w' : World} (hP : ∀ b, P b → w'.heap[b]? = w.heap[b]?) (hQ : ∀ b, P b → Q b) (b : Nat) (o : Nat) (hb : w'.heap[b]? = w.heap[b]?) : ∀ (ks : List Kd), KRepK P w b o ks → KRepK Q w' b o ks
  | [] => by intro _; rw [KRepK]; trivial
  | t :: r => by
    intro h
    rw [KRepK] at h ⊢
    obtain ⟨⟨c, h1, h2⟩, h3⟩ := h
    exact ⟨⟨c, h1.carry hb, KRep.carry hP hQ t c h2⟩, KRepK.carry hP hQ b (o + 3) hb r h3⟩
end

/-- A schema as the walks take it: what its kids' slice is, and each kid. -/
theorem KRep.open {P : Nat → Prop} {w : World} {t : Kd} {c : C3} (h : KRep P w t c) :
    c.c0 = .int .i64 t.sort ∧ I64 t.sort ∧ StrsAt P w c.c1 t.names ∧
    ∃ a cap, c.c2 = .slice a t.kids.length cap ∧ t.kids.length ≤ 9223372036854775807 ∧
      ∀ i, (hi : i < t.kids.length) → ∃ b o c, a = some ⟨b, o, none⟩ ∧ P b ∧ C3.at w b (o + i * 3) c ∧ KRep P w t.kids[i] c := by
  obtain ⟨s, ns, ks⟩ := t
  rw [KRep] at h
  obtain ⟨h0, h3, h6, a, cap, h7, h8, h9⟩ := h
  refine ⟨h0, h3, h6, a, cap, h7, h8, fun i hi => ?_⟩
  obtain ⟨b, o, e, p, hr⟩ := h9 (fun hh => by subst hh; simp [Kd.kids] at hi)
  obtain ⟨c', h1', h2'⟩ := hr.get i hi
  exact ⟨b, o, c', e, p, h1', h2'⟩

theorem KRep.make {P : Nat → Prop} {w : World} {t : Kd} {v3 : Value} {b o cap : Nat} (h0 : I64 t.sort) (h3 : StrsAt P w v3 t.names) (h4 : t.kids.length ≤ 9223372036854775807) (h5 : P b) (h6 : KRepK P w b o t.kids) :
    KRep P w t ⟨.int .i64 t.sort, v3, .slice (some ⟨b, o, none⟩) t.kids.length cap⟩ := by
  obtain ⟨s, ns, ks⟩ := t
  rw [KRep]
  exact ⟨rfl, h0, h3, _, _, rfl, h4, fun _ => ⟨b, o, rfl, h5, h6⟩⟩

mutual
def ksz : Kd → Nat
  | .mk _ _ k => 1 + klsz k
def klsz : List Kd → Nat
  | [] => 0
  | t :: r => ksz t + klsz r
end
theorem ksz_kid {t k : Kd} (h : k ∈ t.kids) : ksz k < ksz t := by
  obtain ⟨s, ns, ks⟩ := t
  have : ∀ l : List Kd, k ∈ l → ksz k ≤ klsz l := by
    intro l
    induction l with
    | nil => intro h; cases h
    | cons a r ih =>
      intro h
      rw [klsz]
      rcases List.mem_cons.1 h with rfl | h
      · omega
      · have := ih h; omega
  have := this ks h
  rw [ksz]; omega

def row3 (c0 c1 c2 : Value) : Nat → Value
  | 0 => c0
  | 1 => c1
  | _ => c2

theorem row3_alloc (w : World) (c0 c1 c2 : Value) (t : TypeId) : (w.alloc (.cells #[c0, c1, c2] t)).rowIs w.heap.size t 3 (row3 c0 c1 c2) :=
  World.rowIs_alloc w #[c0, c1, c2] t _ (fun i hi => by
    have hi' : i < 3 := hi
    match i, hi' with
    | 0, _ => rfl
    | 1, _ => rfl
    | 2, _ => rfl)

theorem kbox1 {w w1 : World} {x0 x1 x2 : Value} {tx : TypeId}
    (hb : Below (w.alloc (.cells #[x0, x1, x2] tx)).heap.size (w.alloc (.cells #[x0, x1, x2] tx)) w1) :
    w1.rowIs w.heap.size tx 3 (row3 x0 x1 x2) ∧ w.heap.size + 1 ≤ w1.heap.size ∧ Below w.heap.size w w1 := by
  have r0 := row3_alloc w x0 x1 x2 tx
  have hs := hb.size
  refine ⟨r0.of_block (hb.block _ r0.lt), by simpa using hs, ?_⟩
  exact ((Below.refl _ _).alloc (Nat.le_refl _) _).trans (hb.mono (by simp))

theorem kbox2 {w w1 : World} {x0 x1 x2 y0 y1 y2 : Value} {tx ty : TypeId}
    (hb : Below ((w.alloc (.cells #[x0, x1, x2] tx)).alloc (.cells #[y0, y1, y2] ty)).heap.size ((w.alloc (.cells #[x0, x1, x2] tx)).alloc (.cells #[y0, y1, y2] ty)) w1) :
    w1.rowIs w.heap.size tx 3 (row3 x0 x1 x2) ∧ w1.rowIs (w.heap.size + 1) ty 3 (row3 y0 y1 y2) ∧ w.heap.size + 2 ≤ w1.heap.size ∧ Below w.heap.size w w1 := by
  have e1 : (w.alloc (.cells #[x0, x1, x2] tx)).heap.size = w.heap.size + 1 := by simp
  have r0 := (row3_alloc w x0 x1 x2 tx).alloc (.cells #[y0, y1, y2] ty)
  have r1 := row3_alloc (w.alloc (.cells #[x0, x1, x2] tx)) y0 y1 y2 ty
  rw [e1] at r1
  have hs := hb.size
  refine ⟨r0.of_block (hb.block _ r0.lt), r1.of_block (hb.block _ r1.lt), by simpa using hs, ?_⟩
  exact (((Below.refl _ _).alloc (Nat.le_refl _) _).alloc (by simp) _).trans (hb.mono (by simp; omega))

theorem kbox3 {w w1 : World} {x0 x1 x2 y0 y1 y2 z0 z1 z2 : Value} {tx ty tz : TypeId}
    (hb : Below (((w.alloc (.cells #[x0, x1, x2] tx)).alloc (.cells #[y0, y1, y2] ty)).alloc (.cells #[z0, z1, z2] tz)).heap.size (((w.alloc (.cells #[x0, x1, x2] tx)).alloc (.cells #[y0, y1, y2] ty)).alloc (.cells #[z0, z1, z2] tz)) w1) :
    w1.rowIs w.heap.size tx 3 (row3 x0 x1 x2) ∧ w1.rowIs (w.heap.size + 1) ty 3 (row3 y0 y1 y2) ∧ w1.rowIs (w.heap.size + 1 + 1) tz 3 (row3 z0 z1 z2) ∧ w.heap.size + 3 ≤ w1.heap.size ∧ Below w.heap.size w w1 := by
  have e1 : (w.alloc (.cells #[x0, x1, x2] tx)).heap.size = w.heap.size + 1 := by simp
  have e2 : ((w.alloc (.cells #[x0, x1, x2] tx)).alloc (.cells #[y0, y1, y2] ty)).heap.size = w.heap.size + 1 + 1 := by simp
  have r0 := ((row3_alloc w x0 x1 x2 tx).alloc (.cells #[y0, y1, y2] ty)).alloc (.cells #[z0, z1, z2] tz)
  have r1 := (row3_alloc (w.alloc (.cells #[x0, x1, x2] tx)) y0 y1 y2 ty).alloc (.cells #[z0, z1, z2] tz)
  have r2 := row3_alloc ((w.alloc (.cells #[x0, x1, x2] tx)).alloc (.cells #[y0, y1, y2] ty)) z0 z1 z2 tz
  rw [e1] at r1
  rw [e2] at r2
  have hs := hb.size
  refine ⟨r0.of_block (hb.block _ r0.lt), r1.of_block (hb.block _ r1.lt), r2.of_block (hb.block _ r2.lt), by simpa using hs, ?_⟩
  exact ((((Below.refl _ _).alloc (Nat.le_refl _) _).alloc (by simp) _).alloc (by simp; omega) _).trans (hb.mono (by simp; omega))

end Go.Proofs.YtbigchdhpdgicaaDoor

/- The program's byteWriter in memory, and the walks of its add, put, text, size, num. Conditions: what is put fits in 9000 bytes. -/

namespace Go.Proofs.YtbigchdhpdgicaaDoor
open Go Go.RowKit

theorem ByRow.apart {base : Nat} {w : World} {v : Value} {l : List UInt8} {b : Nat} {T : TypeId} {n : Nat} {f : Nat → Value} (h : ByRow base w v l) (hr : w.rowIs b T n f) (hT : T ≠ 5) : v.ownBlock ≠ some b := by
  rcases h.2 with ⟨hv, _⟩ | ⟨g, cap, cur, hv, _, hg, _⟩
  · subst hv; simp [Value.ownBlock]
  · subst hv
    obtain ⟨c, hb, _⟩ := hr
    intro e
    simp [Value.ownBlock] at e
    subst e
    rw [hg] at hb
    simp at hb
    exact hT hb.2.symm

/-- The writer: its counter, and the bytes that were put. -/
structure Wr (base B : Nat) (w : World) (v : Value) (l : List UInt8) : Prop where
  cells : w.rowIs B 95 3 (row3 (.int .i64 l.length) (.int .i64 9000) v)
  row : ByRow base w v l
  lt : base ≤ B

/-- Nothing has turned but the writer and rows of bytes from a base on. -/
structure Sp (base B : Nat) (w w' : World) : Prop where
  os : w'.os = w.os
  tape : w'.tape = w.tape
  output : w'.output = w.output
  size : w.heap.size ≤ w'.heap.size
  block : ∀ b, b < w.heap.size → b ≠ B → (b < base ∨ ∀ cs f, w.heap[b]? ≠ some (.cells cs 5 f)) → w'.heap[b]? = w.heap[b]?

theorem Sp.refl (base B : Nat) (w : World) : Sp base B w w := ⟨rfl, rfl, rfl, Nat.le_refl _, fun _ _ _ _ => rfl⟩
theorem Sp.trans {base B : Nat} {a b c : World} (h : Sp base B a b) (k : Sp base B b c) : Sp base B a c :=
  ⟨k.os.trans h.os, k.tape.trans h.tape, k.output.trans h.output, Nat.le_trans h.size k.size, fun i hi hne hc => by
    have e := h.block i hi hne hc
    exact (k.block i (Nat.lt_of_lt_of_le hi h.size) hne (by rw [e]; exact hc)).trans e⟩
theorem Sp.but {base B : Nat} {w w' : World} (h : But B w w') : Sp base B w w' := ⟨h.os, h.tape, h.output, h.size, fun _ hi hne _ => h.at hi hne⟩
theorem Sp.alloc (base B : Nat) (w : World) (o : Obj) : Sp base B w (w.alloc o) := Sp.but (But.alloc B w o)
theorem Sp.grown {base B : Nat} {w w' : World} {v : Value} {l : List UInt8} (h : ByRow base w v l) (hg : w.grownBy w' v.ownBlock) : Sp base B w w' :=
  ⟨hg.os, hg.tape, hg.output, hg.size, fun b hb _ hc => hg.block b hb (fun e => by
    rcases h.2 with ⟨hv, _⟩ | ⟨g, cap, cur, hv, hbg, hh, _⟩
    · subst hv; simp [Value.ownBlock] at e
    · subst hv
      simp [Value.ownBlock] at e
      subst e
      rcases hc with hc | hc
      · omega
      · exact hc _ _ hh)⟩
theorem Sp.below {base B : Nat} {w w' : World} (h : Sp base B w w') (hb : base ≤ B) (hw : base ≤ w.heap.size) : Below base w w' :=
  ⟨h.os, h.tape, h.output, h.size, fun b hbb => h.block b (by omega) (by omega) (Or.inl hbb)⟩
theorem Sp.box {base B : Nat} {w w' : World} (h : Sp base B w w') {X : Nat} {T : TypeId} {n : Nat} {f : Nat → Value} (hr : w.rowIs X T n f) (hne : X ≠ B) (hT : T ≠ 5) : w'.rowIs X T n f := by
  refine hr.of_block (h.block X hr.lt hne (Or.inr fun cs fz e => ?_))
  obtain ⟨c, hb, _⟩ := hr
  rw [e] at hb
  simp at hb
  exact hT hb.2.1.symm

theorem Wr.but {base B : Nat} {w w' : World} {v : Value} {l : List UInt8} (h : Wr base B w v l) (hb : But B w w') : ByRow base w' v l :=
  World.ownsRow.kept h.row hb (Or.inr (ByRow.apart h.row h.cells (by decide)))
theorem Wr.alloc {base B : Nat} {w : World} {v : Value} {l : List UInt8} (h : Wr base B w v l) (o : Obj) : Wr base B (w.alloc o) v l :=
  ⟨h.cells.alloc o, World.ownsRow.alloc h.row o, h.lt⟩
theorem Wr.size {base B : Nat} {w : World} {v : Value} {l : List UInt8} (h : Wr base B w v l) : base ≤ w.heap.size := by
  have := h.cells.lt; have := h.lt; omega

/-- What a call that puts bytes comes to. -/
def WrEnd (base B : Nat) (w w' : World) (e : Ending) (l : List UInt8) : Prop := e = .returned (.tuple #[]) ∧ Sp base B w w' ∧ ∃ a n cap, n = l.length ∧ Wr base B w' (.slice a n cap) l

theorem row3_set0 {w : World} {B : Nat} {T : TypeId} {x y z : Value} (h : w.rowIs B T 3 (row3 x y z)) (v : Value) : (w.setCell ⟨B, 0, none⟩ v).rowIs B T 3 (row3 v y z) :=
  (h.set 0 v).congr fun i hi => by
    rcases (show i = 0 ∨ i = 1 ∨ i = 2 by omega) with rfl | rfl | rfl <;> rfl
theorem row3_pk2 {w : World} {B : Nat} {T : TypeId} {x y z : Value} (h : w.rowIs B T 3 (row3 x y z)) (v : Value) : (w.setCell ⟨B, 2, none⟩ v).rowIs B T 3 (row3 x y v) :=
  (h.set 2 v).congr fun i hi => by
    rcases (show i = 0 ∨ i = 1 ∨ i = 2 by omega) with rfl | rfl | rfl <;> rfl

set_option maxRecDepth 100000 in
set_option maxHeartbeats 800000 in
theorem add_any (w : World) (B : Nat) (c k : Nat) (v : Value) (h : w.rowIs B 95 3 (row3 (.int .i64 c) (.int .i64 9000) v)) (hc : c + k ≤ 9000) :
    Calls Tryd.prog 64 #[.pointer (some ⟨B, 0, none⟩), .int .i64 k] w fun e w' => e = .returned (.tuple #[]) ∧ w'.rowIs B 95 3 (row3 (.int .i64 ((c + k : Nat) : Int)) (.int .i64 9000) v) ∧ But B w w' := by
  have k0 := h.cell (i := 0) (by omega); have k1 := h.cell (i := 1) (by omega); have f0 := h.frozen 0
  simp only [row3] at k0 k1
  have hle : (c : Int) + k ≤ 9000 := by omega
  have H := hide h
  clear h
  go_enter Tryd.func64, Tryd.ntmps64
  go_wp2_with fail
  go_quiet ((go_at_call 69; exact Calls.quiet_of_same (treeWant_yes _)))
  go_wp2_with fail
  go_end0
  refine ⟨rfl, ?_, ?_⟩
  · have := row3_set0 (unhide H) (.int .i64 ((c : Int) + k))
    rw [Int.natCast_add]
    exact this.of_block (by simp)
  · exact (But.set w 0 _).trans (But.of_below (below_drewN (Below.refl _ _) _))

/-- A row behind the counter's turn. -/
theorem Wr.counted {base B : Nat} {w w1 : World} {v : Value} {l : List UInt8} (h : Wr base B w v l) (hb : But B w w1) :
    ByRow base w1 v l ∧ Sp base B w w1 ∧ base ≤ w1.heap.size := ⟨h.but hb, Sp.but hb, Nat.le_trans h.size hb.size⟩

/-- The new row is stored in the writer. -/
theorem Wr.stored {base B : Nat} {w2 w3 : World} {v v' : Value} {l l' : List UInt8} (hlt : base ≤ B) (hr : w2.rowIs B 95 3 (row3 (.int .i64 (l'.length : Int)) (.int .i64 9000) v)) (h2 : ByRow base w2 v l) (hg : w2.grownBy w3 v.ownBlock) (h3 : ByRow base w3 v' l') :
    w3.rowIs B 95 3 (row3 (.int .i64 (l'.length : Int)) (.int .i64 9000) v) ∧ Wr base B (w3.setCell ⟨B, 2, none⟩ v') v' l' ∧ Sp base B w2 (w3.setCell ⟨B, 2, none⟩ v') := by
  have hr3 : w3.rowIs B 95 3 (row3 (.int .i64 (l'.length : Int)) (.int .i64 9000) v) := hr.of_block (hg.block B hr.lt (fun e => ByRow.apart h2 hr (by decide) e.symm))
  exact ⟨hr3, ⟨row3_pk2 hr3 v', ownsRow_setCell_other h3 (ByRow.apart h3 hr3 (by decide)) v', hlt⟩, (Sp.grown h2 hg).trans (Sp.but (But.set w3 2 v'))⟩

set_option maxRecDepth 100000 in
set_option maxHeartbeats 1600000 in
theorem put_any (base B : Nat) (w : World) (a : Option Addr) (n cap : Nat) (l : List UInt8) (b : Int) (h : Wr base B w (.slice a n cap) l) (hb0 : 0 ≤ b) (hb1 : b < 256) (hl : l.length + 1 ≤ 9000) :
    Calls Tryd.prog 61 #[.pointer (some ⟨B, 0, none⟩), .int .i64 b] w fun e w' => WrEnd base B w w' e (l ++ [UInt8.ofNat b.toNat]) := by
  have HADD := hide (add_any w B l.length 1 _ h.cells hl)
  have HK := hide (bcI b hb0 hb1)
  have H := hide h
  clear h
  go_enter Tryd.func61, Tryd.ntmps61
  go_wp2_with fail
  refine (unhide HADD).mono ?_
  rintro e w1 ⟨rfl, hr1, hb1'⟩
  obtain ⟨hrow1, hsp1, hsz1⟩ := (unhide H).counted hb1'
  have k2 := hr1.cell (i := 2) (by omega)
  simp only [row3] at k2
  have HR1 := hide hr1; have HROW1 := hide hrow1; have HSP1 := hide hsp1
  clear hr1 hrow1 hsp1 hb1' HADD
  go_wp2_with (at_builtin; refine append_bytes _ rfl _ _ rfl base (.slice a n cap) l [UInt8.ofNat b.toNat] rfl (World.ownsRow.alloc (unhide HROW1) _) ⟨w1.heap.size, 0, none⟩ 1 1 rfl rfl (by rw [unhide HK]; exact cell_one _ _ _) (by simp; omega) (by simp; omega) ?_
               intro a' n' cap' w3 HN3 HR3 HG3
               have hst := Wr.stored (l' := l ++ [UInt8.ofNat b.toNat]) (unhide H).lt (by rw [List.length_append]; exact (unhide HR1).alloc (.cells #[.int .u8 b] 5)) (World.ownsRow.alloc (unhide HROW1) (.cells #[.int .u8 b] 5)) HG3.out HR3.out
               obtain ⟨hr3, hw3, hsp3⟩ := hst
               have m2 := hr3.cell (i := 2) (by omega)
               have f2 := hr3.frozen 2
               simp only [row3] at m2
               have HW3 := hide hw3
               have HSP3 := hide (((unhide HSP1).trans (Sp.alloc base B w1 (.cells #[.int .u8 b] 5))).trans hsp3)
               clear hr3 hw3 hsp3 HR3 HG3)
  go_end0
  exact ⟨rfl, unhide HSP3, a', n', cap', HN3.out, unhide HW3⟩

set_option maxRecDepth 100000 in
set_option maxHeartbeats 1600000 in
theorem text_any (base B : Nat) (w : World) (a : Option Addr) (n cap : Nat) (l : List UInt8) (tx : ByteArray) (h : Wr base B w (.slice a n cap) l) (htx : tx.size < 256) (hl : l.length + (shortB tx).length ≤ 9000) :
    Calls Tryd.prog 60 #[.pointer (some ⟨B, 0, none⟩), .string tx] w fun e w' => WrEnd base B w w' e (l ++ shortB tx) := by
  rw [shortB_len] at hl
  have HPUT := hide (put_any base B w a n cap l tx.size h (by omega) (by omega) (by omega))
  have HE : Hid ((l ++ [UInt8.ofNat tx.size]) ++ tx.data.toList = l ++ shortB tx) := by show _ = _; simp [shortB]
  clear h
  go_enter Tryd.func60, Tryd.ntmps60
  go_wp2_with fail
  refine (unhide HPUT).mono ?_
  rintro e w1 ⟨rfl, hsp1, a1, n1, cap1, hn1, hw1⟩
  rw [Int.toNat_natCast] at hw1 hn1
  have HADD := hide (add_any w1 B (l ++ [UInt8.ofNat tx.size]).length tx.size _ hw1.cells (by simp; omega))
  have HW1 := hide hw1; have HSP1 := hide hsp1
  clear hw1 hsp1 hn1 HPUT
  go_wp2_with fail
  refine (unhide HADD).mono ?_
  rintro e w2 ⟨rfl, hr2, hb2⟩
  obtain ⟨hrow2, hsp2, hsz2⟩ := (unhide HW1).counted hb2
  have k2 := hr2.cell (i := 2) (by omega)
  simp only [row3] at k2
  have HR2 := hide hr2; have HROW2 := hide hrow2; have HSP2 := hide ((unhide HSP1).trans hsp2)
  have HLT := hide (unhide HW1).lt
  clear hr2 hrow2 hsp2 hb2 HADD HW1 HSP1
  go_wp2_with (at_builtin; refine append_string _ rfl _ _ rfl base (.slice a1 n1 cap1) (l ++ [UInt8.ofNat tx.size]) tx rfl (unhide HROW2) rfl (by simp; omega) hsz2 ?_
               intro a' n' cap' w3 HN3 HR3 HG3
               rw [HE.out] at HN3 HR3
               have hst := Wr.stored (l' := l ++ shortB tx) (unhide HLT) (by rw [← HE.out, List.length_append (bs := tx.data.toList)]; exact unhide HR2) (unhide HROW2) HG3.out HR3.out
               obtain ⟨hr3, hw3, hsp3⟩ := hst
               have m2 := hr3.cell (i := 2) (by omega)
               have f2 := hr3.frozen 2
               simp only [row3] at m2
               have HW3 := hide hw3
               have HSP3 := hide ((unhide HSP2).trans hsp3)
               clear hr3 hw3 hsp3 HR3 HG3)
  go_end0
  exact ⟨rfl, unhide HSP3, a', n', cap', HN3.out, unhide HW3⟩

set_option maxRecDepth 100000 in
set_option maxHeartbeats 1600000 in
theorem size_any (base B : Nat) (w : World) (a : Option Addr) (n cap : Nat) (l : List UInt8) (m : Nat) (h : Wr base B w (.slice a n cap) l) (hm : m ≤ 999999999) (hl : l.length + (sevB m).length ≤ 9000) :
    Calls Tryd.prog 70 #[.pointer (some ⟨B, 0, none⟩), .int .i64 m] w fun e w' => WrEnd base B w w' e (l ++ sevB m) := by
  obtain ⟨L, hL⟩ : ∃ L, L = l ++ sevB m := ⟨_, rfl⟩
  have H0 : Hid (Wr base B w (.slice a n cap) l ∧ Sp base B w w ∧ l ++ sevB m = L) := ⟨h, Sp.refl _ _ _, hL.symm⟩
  have hlen : L.length ≤ 9000 := by rw [hL, List.length_append]; exact hl
  rw [← hL]
  have HL := hide hlen
  clear h hl hlen hL
  go_enter Tryd.func70, Tryd.ntmps70
  go_wp2_with fail
  go_loopw [1] (fun i wr => ∃ (k : Nat) (ar : Option Addr) (nr cr : Nat) (lr : List UInt8), i = .int .i64 k ∧ k ≤ 999999999 ∧ Hid (Wr base B wr (.slice ar nr cr) lr ∧ Sp base B w wr ∧ lr ++ sevB k = L)) (fun i _ => (intOf i).toNat)
  case atStart => exact ⟨m, a, n, cap, l, rfl, hm, H0⟩
  case round =>
    obtain ⟨k, ar, nr, cr, lr, rfl, hk, HA⟩ := hrel
    have hlr : lr.length + (sevB k).length ≤ 9000 := by have := unhide HL; rw [← HA.out.2.2, List.length_append] at this; exact this
    by_cases h128 : 127 < k
    · have hge : (128 : Int) ≤ k := by omega
      have he := sevB_more h128
      have hn1 : (((k : Int) % 128 + 128).toNat) = 128 + k % 128 := by omega
      have HP := hide (put_any base B wr ar nr cr lr ((k : Int) % 128 + 128) HA.out.1 (by omega) (by omega) (by rw [he] at hlr; simp at hlr; omega))
      rw [hn1] at HP
      have HE := hide he
      clear he hn1 hlr
      go_wp2_with fail
      refine (unhide HP).mono ?_
      rintro e w1 ⟨rfl, hsp1, a1, n1, cap1, -, hw1⟩
      have HN : Hid (Wr base B w1 (.slice a1 n1 cap1) (lr ++ [UInt8.ofNat (128 + k % 128)]) ∧ Sp base B w w1 ∧ (lr ++ [UInt8.ofNat (128 + k % 128)]) ++ sevB (k / 128) = L) := ⟨hw1, HA.out.2.1.trans hsp1, by have := HA.out.2.2; rw [unhide HE] at this; simpa using this⟩
      clear hsp1 hw1 HP HE
      go_wp2_with fail
      go_roundw
      case rel => exact ⟨k / 128, a1, n1, cap1, _, by go_num, by omega, HN⟩
      case measure => simp [intOf]; omega
    · have hge : ¬ ((128 : Int) ≤ k) := by omega
      have he := sevB_last h128
      have HP := hide (put_any base B wr ar nr cr lr (k : Int) HA.out.1 (by omega) (by omega) (by rw [he] at hlr; simp at hlr; omega))
      rw [Int.toNat_natCast, ← he, HA.out.2.2] at HP
      clear he hlr
      go_wp2_with fail
      refine (unhide HP).mono ?_
      rintro e w1 ⟨rfl, hsp1, hend⟩
      have HEND := hide hend; have HSP := hide (HA.out.2.1.trans hsp1)
      clear hend hsp1 HP
      go_wp2_with fail
      go_end0
      exact ⟨rfl, unhide HSP, unhide HEND⟩

set_option maxRecDepth 100000 in
set_option maxHeartbeats 1600000 in
theorem numPk_any (base B : Nat) (w : World) (a : Option Addr) (n cap : Nat) (l : List UInt8) (x : Int) (h : Wr base B w (.slice a n cap) l) (h0 : -999999999 ≤ x) (h1 : x ≤ 999999999) (hl : l.length + (numB x).length ≤ 9000) :
    Calls Tryd.prog 65 #[.pointer (some ⟨B, 0, none⟩), .int .i64 x] w fun e w' => WrEnd base B w w' e (l ++ numB x) := by
  have hln : (numB x).length = (sevB x.natAbs).length + 1 := by simp [numB]
  have HSZ := hide (fun w1 a1 n1 cap1 l1 (h1 : Wr base B w1 (.slice a1 n1 cap1) l1) (hl1 : l1.length = l.length + 1) => size_any base B w1 a1 n1 cap1 l1 x.natAbs h1 (by omega) (by omega))
  have HPU := hide (fun (b : Int) (hb0 : 0 ≤ b) (hb1 : b < 256) => put_any base B w a n cap l b h hb0 hb1 (by omega))
  by_cases hneg : x < 0
  · have hab : -x = (x.natAbs : Int) := by omega
    have HE : Hid ((l ++ [UInt8.ofNat (1 : Int).toNat]) ++ sevB x.natAbs = l ++ numB x) := by show _ = _; simp [numB, hneg]
    clear h hl hln
    go_enter Tryd.func65, Tryd.ntmps65
    go_wp2_with fail
    refine (unhide HPU 1 (by decide) (by decide)).mono ?_
    rintro e w1 ⟨rfl, hsp1, a1, n1, cap1, -, hw1⟩
    have HS := hide (unhide HSZ w1 a1 n1 cap1 _ hw1 (by simp))
    have HSP1 := hide hsp1
    rw [HE.out] at HS
    clear hw1 hsp1 HSZ HPU
    go_wp2_with fail
    refine (unhide HS).mono ?_
    rintro e w2 ⟨rfl, hsp2, hend⟩
    have HEND := hide hend; have HSP := hide ((unhide HSP1).trans hsp2)
    clear hend hsp2 HS
    go_wp2_with fail
    refine bodyPost_ret (results_none rfl _ _ _) rfl ?_
    exact ⟨rfl, unhide HSP, unhide HEND⟩
  · have hab : x = (x.natAbs : Int) := by omega
    have HE : Hid ((l ++ [UInt8.ofNat (0 : Int).toNat]) ++ sevB x.natAbs = l ++ numB x) := by show _ = _; simp [numB, hneg]
    clear h hl hln
    generalize x.natAbs = m at *
    subst hab
    go_enter Tryd.func65, Tryd.ntmps65
    go_wp2_with fail
    refine (unhide HPU 0 (by decide) (by decide)).mono ?_
    rintro e w1 ⟨rfl, hsp1, a1, n1, cap1, -, hw1⟩
    have HS := hide (unhide HSZ w1 a1 n1 cap1 _ hw1 (by simp))
    have HSP1 := hide hsp1
    rw [HE.out] at HS
    clear hw1 hsp1 HSZ HPU
    go_wp2_with fail
    refine (unhide HS).mono ?_
    rintro e w2 ⟨rfl, hsp2, hend⟩
    have HEND := hide hend; have HSP := hide ((unhide HSP1).trans hsp2)
    clear hend hsp2 HS
    go_wp2_with fail
    go_end0
    exact ⟨rfl, unhide HSP, unhide HEND⟩
end Go.Proofs.YtbigchdhpdgicaaDoor

/- A law for a callee that raises a fault in a region that draws its order. No program, no conditions. -/

namespace Go.Proofs.YtbigchdhpdgicaaDoor
open Go Go.RowKit

/-- Where a call raises a fault, what follows it is never met. -/
theorem dead_end {G : Prop} {S K : Act → World → Prop} (_ : ∀ a w, S a w → K a w) (a : Act) (w : World) (h : G) (_ : Hid False → K a w) : G := h

end Go.Proofs.YtbigchdhpdgicaaDoor

/- Names with the places at which they stand, in a map of the call's own. No conditions. -/

namespace Go.Proofs.YtbigchdhpdgicaaDoor
open Go Go.RowKit Go.WideMaps Go.Maps

/-- What a name reads as, where it is a key. -/
def nkey (s : ByteArray) : Lit := .string s.data.toList
/-- The map behind k names. -/
def nmap (ns : List ByteArray) : Nat → DataW Unit
  | 0 => .map []
  | k + 1 => (nmap ns k).put (nkey (ns.getD k ByteArray.empty)) (.lit (.int .i64 k))
theorem nmap_map (ns : List ByteArray) : ∀ k, IsMap (nmap ns k)
  | 0 => ⟨[], rfl⟩
  | k + 1 => (nmap_map ns k).put _ _
theorem nkey_inj {a b : ByteArray} (h : nkey a = nkey b) : a = b := by
  simp only [nkey, Lit.string.injEq] at h
  exact ByteArray.ext (Array.toList_inj.1 h)
theorem nkey_ok (s : ByteArray) : WideAt.IsKeyLit (nkey s) := trivial
theorem has_nmap (ns : List ByteArray) (x : ByteArray) : ∀ k, k ≤ ns.length → (Maps.has (nmap ns k) (nkey x) = true ↔ x ∈ ns.take k)
  | 0, _ => by simp [nmap, Maps.has]
  | k + 1, h => by
    have hg : ns.getD k ByteArray.empty = ns[k] := by simp [List.getD, show k < ns.length by omega]
    rw [nmap, hg, List.take_succ_eq_append_getElem (by omega), List.mem_append]
    by_cases e : x = ns[k]
    · rw [e, has_put_same (nmap_map ns k) (nkey_ok _)]
      simp
    · rw [has_put_other (fun h => e (nkey_inj h)), has_nmap ns x k (by omega)]
      simp [e]
theorem at_nmap (ns : List ByteArray) (hnd : ns.Nodup) (i : Nat) (hi : i < ns.length) : ∀ k, k ≤ ns.length → i < k → (nmap ns k).atKey (nkey ns[i]) (.lit (.int .i64 0)) = .lit (.int .i64 i)
  | 0, _, h => by omega
  | k + 1, h, hk => by
    have hg : ns.getD k ByteArray.empty = ns[k] := by simp [List.getD, show k < ns.length by omega]
    rw [nmap, hg]
    by_cases e : i = k
    · subst e
      exact atKey_put_same (nmap_map ns i) (nkey_ok _) _ _
    · rw [atKey_put_other (fun hh => e ((List.getElem_inj hnd).1 (nkey_inj hh)))]
      exact at_nmap ns hnd i hi k (by omega) (by omega)

theorem keyLaw : Keyed Tryd.prog 9 := string_keyed Tryd.underlying9
theorem zeroInt (w : World) : (zeroValue 3).run Tryd.prog w = .ok (.int .i64 0) w := by kernel_rfl
/-- The names and the map of their places. -/
def NMap (w : World) (B : Nat) (ns : List ByteArray) : Prop := w.ownsMap Tryd.prog 9 (plainElem (H := Unit) Tryd.prog 3) B ns.length (nmap ns ns.length)

def rowO (c0 c1 : Value) : Nat → Value
  | 0 => c0
  | _ => c1
theorem rowO_alloc (w : World) (c0 c1 : Value) (t : TypeId) : (w.alloc (.cells #[c0, c1] t)).rowIs w.heap.size t 2 (rowO c0 c1) :=
  World.rowIs_alloc w #[c0, c1] t _ (fun i hi => by
    have hi' : i < 2 := hi
    match i, hi' with
    | 0, _ => rfl
    | 1, _ => rfl)


/-- A map is where its block is as it was. -/
theorem ownsMap_block {w w' : World} {B n : Nat} {D : DataW Unit} (h : w.ownsMap Tryd.prog 9 (plainElem (H := Unit) Tryd.prog 3) B n D) (hb : w'.heap[B]? = w.heap[B]?) : w'.ownsMap Tryd.prog 9 (plainElem (H := Unit) Tryd.prog 3) B n D := by
  obtain ⟨es, clock, h1, F, hs, rfl⟩ := h
  exact ⟨es, clock, by rw [hb]; exact h1, F, hs, rfl⟩
end Go.Proofs.YtbigchdhpdgicaaDoor
