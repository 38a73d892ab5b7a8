/- The walk of the specification's l1Text: it gives the text of a tree all of whose parts are ok. The text has at most 2^40 bytes. -/
import Derived.Test.YtgamonfmgngilaaGreatDoorPart23
import Derived.Test.YtgamonfmgngilaaGreatDoorPart14
import Derived.Test.YtgamonfmgngilaaGreatDoorPart04
namespace Go.Proofs.YtgamonfmgngilaaGreatDoor
open Go Go.RowKit

def TextSaid (n : Nat) : Prop := ∀ (t : Tr), tsz t < n → ∀ (P : Nat → Prop) (c : C5) (w : World), (∀ b, P b → b < w.heap.size) → Rep P w t c → okT t = true → (txT t).length ≤ 1099511627776 →
    Calls Tryz.prog 23 #[.agg #[c.c0, c.c1, c.c2, c.c3, c.c4]] w fun e w' => e = .returned (.string ⟨(txT t).toArray⟩) ∧ Below w.heap.size w w'

theorem str_eq {a b : ByteArray} (h : a = b) : Value.string a = .string b := by rw [h]

set_option maxRecDepth 100000 in
set_option maxHeartbeats 800000 in
theorem text_123 (t : Tr) (P : Nat → Prop) (c : C5) (w : World) (hrep : Rep P w t c) (ho : okT t = true) (hlen : (txT t).length ≤ 1099511627776) (hs : t.sort = 1 ∨ t.sort = 2 ∨ t.sort = 3) :
    Calls Tryz.prog 23 #[.agg #[c.c0, c.c1, c.c2, c.c3, c.c4]] w fun e w' => e = .returned (.string ⟨(txT t).toArray⟩) ∧ Below w.heap.size w w' := by
  have ha : aloneB t = true := by rw [okT_eq, Bool.and_eq_true] at ho; exact ho.1
  have hx := txT_eq t
  obtain ⟨c0, c1, c2, c3, c4⟩ := c
  obtain ⟨e0, e1, e2, -, -, htx, ⟨a3, cap3, e3, -, -⟩, a, cap, e4, -, -⟩ := hrep.open
  simp only at e0 e1 e2 e3 e4
  subst e0 e1 e2 e3 e4
  have hbx : ∀ o, Below w.heap.size w (w.alloc o) := fun o => (Below.refl _ _).alloc (Nat.le_refl _) o
  have HBX := hide hbx
  clear hrep hbx ho
  rcases hs with hs | hs | hs
  · have hn : -999999999 ≤ t.num ∧ t.num ≤ 999999999 := by unfold aloneB at ha; rw [if_pos hs] at ha; simp at ha; omega
    rw [if_pos hs] at hx
    have HX := hide hx
    have HDEC := hide (fun W => l6Dec_any t.num W hn.1 hn.2)
    rw [hx] at hlen ⊢
    generalize Lib.itoa t.num = ds at *
    clear hx ha hn hlen HX
    go_enter Tryz.func23, Tryz.ntmps23
    go_wp2_with (go_at_call 51; refine (unhide HDEC _).mono ?_; rintro e w1 ⟨rfl, hb⟩)
    go_ret
    exact ⟨rfl, (unhide HBX _).trans (hb.mono (unhide HBX _).size)⟩
  · rw [if_neg (by omega), if_pos hs] at hx
    have HX := hide hx
    have htx2 : t.text.size ≤ 1099511627776 := by rw [hx] at hlen; simp at hlen; omega
    clear hx ha hlen htx
    go_enter Tryz.func23, Tryz.ntmps23
    go_wp2_with fail
    go_ret
    exact ⟨ret_str (by rw [unhide HX]; apply ByteArray.ext; simp), unhide HBX _⟩
  · rw [if_neg (by omega), if_neg (by omega), if_pos hs] at hx
    by_cases h1 : t.num = 1
    · rw [if_pos h1] at hx
      have HX := hide hx
      clear hx ha hlen
      go_enter Tryz.func23, Tryz.ntmps23
      go_wp2_with fail
      go_ret
      exact ⟨ret_str (by rw [unhide HX]), unhide HBX _⟩
    · rw [if_neg h1] at hx
      have HX := hide hx
      have h1' : (t.num == 1) = false := by simpa using h1
      clear hx ha hlen
      go_enter Tryz.func23, Tryz.ntmps23
      go_wp2_with fail
      go_ret
      exact ⟨ret_str (by rw [unhide HX]), unhide HBX _⟩

set_option maxRecDepth 100000 in
set_option maxHeartbeats 1600000 in
theorem text_4 (n : Nat) (IH : TextSaid n) (t : Tr) (hn : tsz t ≤ n) (P : Nat → Prop) (c : C5) (w : World) (hP : ∀ b, P b → b < w.heap.size) (hrep : Rep P w t c) (ho : okT t = true) (hlen : (txT t).length ≤ 1099511627776) (hs : t.sort = 4) :
    Calls Tryz.prog 23 #[.agg #[c.c0, c.c1, c.c2, c.c3, c.c4]] w fun e w' => e = .returned (.string ⟨(txT t).toArray⟩) ∧ Below w.heap.size w w' := by
  rw [okT_eq, Bool.and_eq_true] at ho
  obtain ⟨ha, hok⟩ := ho
  have hx : txT t = [91] ++ txK false t.names 0 t.kids ++ [93] := by rw [txT_eq, if_neg (by omega), if_neg (by omega), if_neg (by omega), if_neg (by omega), if_neg (by omega)]
  have hln : (txK false t.names 0 t.kids).length ≤ 1099511627776 := by rw [hx] at hlen; simp at hlen; omega
  obtain ⟨c0, c1, c2, c3, c4⟩ := c
  obtain ⟨e0, e1, e2, -, -, htx, hns, a, cap, e4, hkl, hks⟩ := hrep.open
  simp only at e0 e1 e2 hns e4
  obtain ⟨a3, cap3, e3, hnl, hnc⟩ := hns
  subst e0 e1 e2 e3 e4
  have HX := hide hx; have HLN := hide hln; have HP := hide hP; have HI := hide IH; have HK := hide hks; have HOK := hide hok; have HNC := hide hnc
  clear hrep hx hln hlen hP IH hks hok ha hnc
  generalize hkk : t.kids = ks at *
  have HKS := hide hkk; clear hkk
  rw [hs]
  go_enter Tryz.func23, Tryz.ntmps23
  go_wp2_with fail
  go_loopw [3, 4] (fun o i wr => ∃ (k : Nat) (ts : List UInt8), k ≤ ks.length ∧ i = .int .i64 k ∧ o = .string ⟨ts.toArray⟩ ∧ ts.length ≤ 1099511627776 ∧ Hid (ts = txTo false t.names ks k) ∧ wr.cell? ⟨w.heap.size, 0, none⟩ = some (.int .i64 4) ∧ wr.cell? ⟨w.heap.size, 3, none⟩ = some (.slice a3 t.names.length cap3) ∧ wr.cell? ⟨w.heap.size, 4, none⟩ = some (.slice a ks.length cap) ∧ w.heap.size < wr.heap.size ∧ Below w.heap.size w wr) (fun _ i _ => ks.length - (intOf i).toNat)
  case atStart => exact ⟨0, [], Nat.zero_le _, rfl, rfl, by simp, by show [] = _; simp [txTo, txK], by simp [go_sem], by simp [go_sem], by simp [go_sem], by simp, (Below.refl _ _).alloc (Nat.le_refl _) _⟩
  case round =>
    obtain ⟨k, ts, hk, rfl, rfl, hts, HTS, b0, b3, b4, hbs, hb⟩ := hrel
    by_cases hlt : k < ks.length
    · obtain ⟨b, o, c, rfl, hpb, hcell, hrp⟩ := unhide HK k hlt
      have hcell' := hcell.carry (hb.block b (unhide HP b hpb))
      obtain ⟨c0, c1, c2, c3, c4⟩ := c
      obtain ⟨e0, e1, e2, e3, e4⟩ := hcell'
      simp only at e0 e1 e2 e3 e4
      have hmem : ks[k] ∈ t.kids := by rw [unhide HKS]; exact List.getElem_mem hlt
      have hsm : tsz ks[k] < n := by have := tsz_kid hmem; omega
      have hsucc := txTo_succ false t.names ks k hlt
      have hle := txTo_le false t.names ks (k + 1) (by omega)
      have hlen2 := Nat.le_trans hle (unhide HLN)
      have htk : (txT ks[k]).length ≤ 1099511627776 := by rw [hsucc] at hlen2; simp at hlen2; omega
      have hcall := unhide HI ks[k] hsm P ⟨c0, c1, c2, c3, c4⟩ wr (fun b hb' => Nat.lt_of_lt_of_le (unhide HP b hb') hb.size) (Rep.carry (fun b hb' => hb.block b (unhide HP b hb')) (fun _ h => h) _ _ hrp) (okK_get (unhide HOK) k hlt) htk
      rw [hsucc, ← HTS.out] at hlen2
      rw [← HTS.out] at hsucc
      generalize txT ks[k] = tk at hcall hsucc htk hlen2
      have HCALL := hide hcall; have HSUCC := hide hsucc; have HLEN2 := hide hlen2
      clear hcell hpb hrp hmem hcall hsucc hle hlen2
      by_cases h0 : k = 0
      · have hah : ahead false t.names k = [] := by subst h0; simp [ahead]
        have hd : decide (0 < k) = false := by simp; omega
        have HK0 := hide h0
        have HAH := hide hah
        clear h0 hah
        go_wp2_with (go_at_call 23; refine (unhide HCALL).mono ?_; rintro e w1 ⟨rfl, hb1⟩)
        go_roundw
        case rel =>
          refine ⟨k + 1, ts ++ (ahead false t.names k ++ tk), by omega, by go_num, str_eq ?_, unhide HLEN2, (unhide HSUCC).symm, ?_, ?_, ?_, ?_, ?_⟩
          · rw [unhide HAH]; apply ByteArray.ext; simp
          · rw [hb1.cell hbs]; exact b0
          · rw [hb1.cell hbs]; exact b3
          · rw [hb1.cell hbs]; exact b4
          · exact Nat.lt_of_lt_of_le hbs hb1.size
          · exact hb.trans (hb1.mono hb.size)
        case measure => simp [intOf]; omega
      · have hah : ahead false t.names k = [44] := by simp [ahead]; omega
        have hd : decide (0 < k) = true := by simp; omega
        have HAH := hide hah
        clear h0 hah
        go_wp2_with (go_at_call 23; refine (unhide HCALL).mono ?_; rintro e w1 ⟨rfl, hb1⟩)
        go_roundw
        case rel =>
          refine ⟨k + 1, ts ++ (ahead false t.names k ++ tk), by omega, by go_num, str_eq ?_, unhide HLEN2, (unhide HSUCC).symm, ?_, ?_, ?_, ?_, ?_⟩
          · rw [unhide HAH]; apply ByteArray.ext; simp
          · rw [hb1.cell hbs]; exact b0
          · rw [hb1.cell hbs]; exact b3
          · rw [hb1.cell hbs]; exact b4
          · exact Nat.lt_of_lt_of_le hbs hb1.size
          · exact hb.trans (hb1.mono hb.size)
        case measure => simp [intOf]; omega
    · go_wp2_with fail
      go_ret
      refine ⟨ret_str ?_, hb⟩
      obtain rfl : k = ks.length := by omega
      rw [unhide HX, ← txTo_all, ← HTS.out]
      apply ByteArray.ext; simp

set_option maxRecDepth 100000 in
set_option maxHeartbeats 1600000 in
theorem text_5 (n : Nat) (IH : TextSaid n) (t : Tr) (hn : tsz t ≤ n) (P : Nat → Prop) (c : C5) (w : World) (hP : ∀ b, P b → b < w.heap.size) (hrep : Rep P w t c) (ho : okT t = true) (hlen : (txT t).length ≤ 1099511627776) (hs : t.sort = 5) :
    Calls Tryz.prog 23 #[.agg #[c.c0, c.c1, c.c2, c.c3, c.c4]] w fun e w' => e = .returned (.string ⟨(txT t).toArray⟩) ∧ Below w.heap.size w w' := by
  rw [okT_eq, Bool.and_eq_true] at ho
  obtain ⟨ha, hok⟩ := ho
  have hx : txT t = [123] ++ txK true t.names 0 t.kids ++ [125] := by rw [txT_eq, if_neg (by omega), if_neg (by omega), if_neg (by omega), if_neg (by omega), if_pos hs]
  have hln : (txK true t.names 0 t.kids).length ≤ 1099511627776 := by rw [hx] at hlen; simp at hlen; omega
  have hnk : t.names.length = t.kids.length := by unfold aloneB at ha; rw [if_neg (by omega), if_neg (by omega), if_neg (by omega), if_neg (by omega), if_pos hs] at ha; simp at ha; omega
  obtain ⟨c0, c1, c2, c3, c4⟩ := c
  obtain ⟨e0, e1, e2, -, -, htx, hns, a, cap, e4, hkl, hks⟩ := hrep.open
  simp only at e0 e1 e2 hns e4
  obtain ⟨a3, cap3, e3, hnl, hnc⟩ := hns
  subst e0 e1 e2 e3 e4
  have hnc' : ∀ i, i < t.kids.length → ∃ b o, a3 = some ⟨b, o, none⟩ ∧ P b ∧ w.cell? ⟨b, o + i, none⟩ = some (.string (t.names.getD i ByteArray.empty)) := fun i hi => by
    obtain ⟨b, o, h1, h2, h3, _⟩ := hnc i (by omega)
    rw [getD_lt _ _ (by omega)]
    exact ⟨b, o, h1, h2, h3⟩
  rw [hnk]
  clear hnk hnc hnl
  have HX := hide hx; have HLN := hide hln; have HP := hide hP; have HI := hide IH; have HK := hide hks; have HOK := hide hok; have HNC := hide hnc'
  clear hrep hx hln hlen hP IH hks hok ha hnc'
  generalize hkk : t.kids = ks at *
  have HKS := hide hkk; clear hkk
  rw [hs]
  go_enter Tryz.func23, Tryz.ntmps23
  go_wp2_with fail
  go_loopw [3, 4] (fun o i wr => ∃ (k : Nat) (ts : List UInt8), k ≤ ks.length ∧ i = .int .i64 k ∧ o = .string ⟨ts.toArray⟩ ∧ ts.length ≤ 1099511627776 ∧ Hid (ts = txTo true t.names ks k) ∧ wr.cell? ⟨w.heap.size, 0, none⟩ = some (.int .i64 5) ∧ wr.cell? ⟨w.heap.size, 3, none⟩ = some (.slice a3 ks.length cap3) ∧ wr.cell? ⟨w.heap.size, 4, none⟩ = some (.slice a ks.length cap) ∧ w.heap.size < wr.heap.size ∧ Below w.heap.size w wr) (fun _ i _ => ks.length - (intOf i).toNat)
  case atStart => exact ⟨0, [], Nat.zero_le _, rfl, rfl, by simp, by show [] = _; simp [txTo, txK], by simp [go_sem], by simp [go_sem], by simp [go_sem], by simp, (Below.refl _ _).alloc (Nat.le_refl _) _⟩
  case round =>
    obtain ⟨k, ts, hk, rfl, rfl, hts, HTS, b0, b3, b4, hbs, hb⟩ := hrel
    by_cases hlt : k < ks.length
    · obtain ⟨b, o, c, rfl, hpb, hcell, hrp⟩ := unhide HK k hlt
      have hcell' := hcell.carry (hb.block b (unhide HP b hpb))
      obtain ⟨c0, c1, c2, c3, c4⟩ := c
      obtain ⟨e0, e1, e2, e3, e4⟩ := hcell'
      simp only at e0 e1 e2 e3 e4
      have hmem : ks[k] ∈ t.kids := by rw [unhide HKS]; exact List.getElem_mem hlt
      have hsm : tsz ks[k] < n := by have := tsz_kid hmem; omega
      have hsucc := txTo_succ true t.names ks k hlt
      have hle := txTo_le true t.names ks (k + 1) (by omega)
      have hlen2 := Nat.le_trans hle (unhide HLN)
      have htk : (txT ks[k]).length ≤ 1099511627776 := by rw [hsucc] at hlen2; simp at hlen2; omega
      have hcall := unhide HI ks[k] hsm P ⟨c0, c1, c2, c3, c4⟩ wr (fun b hb' => Nat.lt_of_lt_of_le (unhide HP b hb') hb.size) (Rep.carry (fun b hb' => hb.block b (unhide HP b hb')) (fun _ h => h) _ _ hrp) (okK_get (unhide HOK) k hlt) htk
      rw [hsucc, ← HTS.out] at hlen2
      rw [← HTS.out] at hsucc
      generalize txT ks[k] = tk at hcall hsucc htk hlen2
      have HCALL := hide hcall; have HSUCC := hide hsucc; have HLEN2 := hide hlen2
      clear hcell hpb hrp hmem hcall hsucc hle hlen2
      obtain ⟨nb, no, rfl, hpn, hcn⟩ := unhide HNC k hlt
      have hcn' : wr.cell? ⟨nb, no + k, none⟩ = some (.string (t.names.getD k ByteArray.empty)) := by rw [hb.cell (unhide HP nb hpn)]; exact hcn
      have hah0 : ahead true t.names k = (if 0 < k then [44] else []) ++ ((t.names.getD k ByteArray.empty).data.toList ++ [58]) := by unfold ahead; rw [if_pos rfl]
      have hl2 := unhide HLEN2
      generalize t.names.getD k ByteArray.empty = nm at *
      have hnm8 : ts.length + nm.size + tk.length ≤ 1099511627776 := by
        rw [hah0] at hl2
        simp only [List.length_append] at hl2
        have e : nm.data.toList.length = nm.size := rfl
        omega
      have HAH0 := hide hah0
      clear hcn hpn hah0 hl2
      by_cases h0 : k = 0
      · have hah : ahead true t.names k = nm.data.toList ++ [58] := by rw [unhide HAH0, if_neg (by omega)]; rfl
        have hd : decide (0 < k) = false := by simp; omega
        have HK0 := hide h0
        have HAH := hide hah
        clear h0 hah
        go_wp2_with (go_at_call 23; refine (unhide HCALL).mono ?_; rintro e w1 ⟨rfl, hb1⟩)
        go_roundw
        case rel =>
          refine ⟨k + 1, ts ++ (ahead true t.names k ++ tk), by omega, by go_num, str_eq ?_, unhide HLEN2, (unhide HSUCC).symm, ?_, ?_, ?_, ?_, ?_⟩
          · rw [unhide HAH]; apply ByteArray.ext; simp
          · rw [hb1.cell hbs]; exact b0
          · rw [hb1.cell hbs]; exact b3
          · rw [hb1.cell hbs]; exact b4
          · exact Nat.lt_of_lt_of_le hbs hb1.size
          · exact hb.trans (hb1.mono hb.size)
        case measure => simp [intOf]; omega
      · have hah : ahead true t.names k = [44] ++ (nm.data.toList ++ [58]) := by rw [unhide HAH0, if_pos (by omega)]
        have hd : decide (0 < k) = true := by simp; omega
        have HAH := hide hah
        clear h0 hah
        go_wp2_with (go_at_call 23; refine (unhide HCALL).mono ?_; rintro e w1 ⟨rfl, hb1⟩)
        go_roundw
        case rel =>
          refine ⟨k + 1, ts ++ (ahead true t.names k ++ tk), by omega, by go_num, str_eq ?_, unhide HLEN2, (unhide HSUCC).symm, ?_, ?_, ?_, ?_, ?_⟩
          · rw [unhide HAH]; apply ByteArray.ext; simp
          · rw [hb1.cell hbs]; exact b0
          · rw [hb1.cell hbs]; exact b3
          · rw [hb1.cell hbs]; exact b4
          · exact Nat.lt_of_lt_of_le hbs hb1.size
          · exact hb.trans (hb1.mono hb.size)
        case measure => simp [intOf]; omega
    · go_wp2_with fail
      go_ret
      refine ⟨ret_str ?_, hb⟩
      obtain rfl : k = ks.length := by omega
      rw [unhide HX, ← txTo_all, ← HTS.out]
      apply ByteArray.ext; simp
end Go.Proofs.YtgamonfmgngilaaGreatDoor

/- The walk of the specification's l1Text, all sorts: it gives the text of a tree all of whose parts are ok. The text has at most 2^40 bytes. -/

namespace Go.Proofs.YtgamonfmgngilaaGreatDoor
open Go Go.RowKit

set_option maxRecDepth 100000 in
set_option maxHeartbeats 800000 in
theorem text_6 (n : Nat) (IH : TextSaid n) (t : Tr) (hn : tsz t ≤ n) (P : Nat → Prop) (c : C5) (w : World) (hP : ∀ b, P b → b < w.heap.size) (hrep : Rep P w t c) (ho : okT t = true) (hlen : (txT t).length ≤ 1099511627776) (hs : t.sort = 6) :
    Calls Tryz.prog 23 #[.agg #[c.c0, c.c1, c.c2, c.c3, c.c4]] w fun e w' => e = .returned (.string ⟨(txT t).toArray⟩) ∧ Below w.heap.size w w' := by
  rw [okT_eq, Bool.and_eq_true] at ho
  obtain ⟨ha, hok⟩ := ho
  have hx : txT t = if t.kids.length = 0 then [126] else [63] ++ txM t.kids := by rw [txT_eq, if_neg (by omega), if_neg (by omega), if_neg (by omega), if_pos hs]
  obtain ⟨c0, c1, c2, c3, c4⟩ := c
  obtain ⟨e0, e1, e2, -, -, htx, hns, a, cap, e4, hkl, hks⟩ := hrep.open
  simp only at e0 e1 e2 hns e4
  obtain ⟨a3, cap3, e3, hnl, hnc⟩ := hns
  subst e0 e1 e2 e3 e4
  clear hnc hnl ha hrep
  have hbx : ∀ o, Below w.heap.size w (w.alloc o) := fun o => (Below.refl _ _).alloc (Nat.le_refl _) o
  have HBX := hide hbx
  clear hbx
  rw [hs]
  by_cases h0 : t.kids.length = 0
  · rw [if_pos h0] at hx
    have HX := hide hx
    rw [h0]
    clear hx hlen IH hks hok
    go_enter Tryz.func23, Tryz.ntmps23
    go_wp2_with fail
    go_ret
    exact ⟨ret_str (by rw [unhide HX]), unhide HBX _⟩
  · have hp : 0 < t.kids.length := by omega
    rw [if_neg h0, txM_get hp] at hx
    obtain ⟨b, o, c, rfl, hpb, hcell, hrp⟩ := hks 0 hp
    rw [Nat.zero_mul, Nat.add_zero] at hcell
    have hcell' := hcell.carry (w' := w.alloc (.cells #[.int .i64 6, .int .i64 t.num, .string t.text, .slice a3 t.names.length cap3, .slice (some ⟨b, o, none⟩) t.kids.length cap] 26)) ((unhide HBX _).block b (hP b hpb))
    obtain ⟨c0, c1, c2, c3, c4⟩ := c
    obtain ⟨e0, e1, e2, e3, e4⟩ := hcell'
    simp only at e0 e1 e2 e3 e4
    have hmem : t.kids[0] ∈ t.kids := List.getElem_mem hp
    have hsm : tsz t.kids[0] < n := by have := tsz_kid hmem; omega
    have hlen' : (txT t.kids[0]).length ≤ 1099511627775 := by rw [hx] at hlen; simp at hlen; omega
    have hcall := fun W (hW : Below w.heap.size w W) => IH t.kids[0] hsm P ⟨c0, c1, c2, c3, c4⟩ W (fun b hb' => Nat.lt_of_lt_of_le (hP b hb') hW.size) (Rep.carry (fun b hb' => hW.block b (hP b hb')) (fun _ h => h) _ _ hrp) (okK_get hok 0 hp) (by omega)
    generalize txT t.kids[0] = tk at *
    have HCALL := hide hcall
    have HX := hide hx
    have hd : decide (t.kids.length = 0) = false := by simpa using h0
    clear hcall hx IH hks hok hmem hcell hrp hlen hsm
    generalize t.kids.length = kl at *
    go_enter Tryz.func23, Tryz.ntmps23
    go_wp2_with (go_at_call 23; refine (unhide HCALL _ (unhide HBX _)).mono ?_; rintro e w1 ⟨rfl, hb1⟩)
    go_ret
    refine ⟨ret_str ?_, (unhide HBX _).trans (hb1.mono (unhide HBX _).size)⟩
    rw [unhide HX]; apply ByteArray.ext; simp

theorem sort_of_ok {t : Tr} (h : okT t = true) : t.sort = 1 ∨ t.sort = 2 ∨ t.sort = 3 ∨ t.sort = 4 ∨ t.sort = 5 ∨ t.sort = 6 := by
  rw [okT_eq, Bool.and_eq_true] at h
  have ha := h.1
  unfold aloneB at ha
  by_cases h1 : t.sort = 1; exact Or.inl h1
  by_cases h2 : t.sort = 2; exact Or.inr (Or.inl h2)
  by_cases h3 : t.sort = 3; exact Or.inr (Or.inr (Or.inl h3))
  by_cases h4 : t.sort = 4; exact Or.inr (Or.inr (Or.inr (Or.inl h4)))
  by_cases h5 : t.sort = 5; exact Or.inr (Or.inr (Or.inr (Or.inr (Or.inl h5))))
  by_cases h6 : t.sort = 6; exact Or.inr (Or.inr (Or.inr (Or.inr (Or.inr h6))))
  simp [h1, h2, h3, h4, h5, h6] at ha

theorem text_all : ∀ n, TextSaid n
  | 0 => fun t h => by omega
  | n + 1 => fun t hn P c w hP hrep ho hlen => by
    rcases sort_of_ok ho with h | h | h | h | h | h
    · exact text_123 t P c w hrep ho hlen (Or.inl h)
    · exact text_123 t P c w hrep ho hlen (Or.inr (Or.inl h))
    · exact text_123 t P c w hrep ho hlen (Or.inr (Or.inr h))
    · exact text_4 n (text_all n) t (by omega) P c w hP hrep ho hlen h
    · exact text_5 n (text_all n) t (by omega) P c w hP hrep ho hlen h
    · exact text_6 n (text_all n) t (by omega) P c w hP hrep ho hlen h

theorem l1Text_any (t : Tr) (P : Nat → Prop) (c : C5) (w : World) (hP : ∀ b, P b → b < w.heap.size) (hrep : Rep P w t c) (ho : okT t = true) (hlen : (txT t).length ≤ 1099511627776) :
    Calls Tryz.prog 23 #[.agg #[c.c0, c.c1, c.c2, c.c3, c.c4]] w fun e w' => e = .returned (.string ⟨(txT t).toArray⟩) ∧ Below w.heap.size w w' :=
  text_all (tsz t + 1) t (by omega) P c w hP hrep ho hlen
end Go.Proofs.YtgamonfmgngilaaGreatDoor

/- The walk of the specification's l1TextOk: what it answers. No conditions. -/

namespace Go.Proofs.YtgamonfmgngilaaGreatDoor
open Go Go.RowKit

set_option maxHeartbeats 400000 in
theorem l1TextOk_any (s : ByteArray) (w : World) (hs : s.size ≤ 9223372036854775807) :
    Calls Tryz.prog 87 #[.string s] w fun e w' => e = .returned (.bool (textOkB s)) ∧ w' = w := by
  by_cases h60 : 60 < s.size
  · go_enter Tryz.func87, Tryz.ntmps87
    go_wp2_with fail
    go_ret
    exact ⟨by simp [textOkB]; omega, rfl⟩
  · go_enter Tryz.func87, Tryz.ntmps87
    go_wp2_with fail
    go_loop [3] (fun i => ∃ k : Nat, k ≤ s.size ∧ i = .int .i64 k ∧ Hid (allTo textByte s k)) (fun i => s.size - (intOf i).toNat)
    case atStart => exact ⟨0, Nat.zero_le _, rfl, fun j hj => by omega⟩
    case round =>
      obtain ⟨k, hk, rfl, HA⟩ := hrel
      by_cases hlt : k < s.size
      · have hc : s[k].toNat < 32 ∨ 126 < s[k].toNat ∨ s[k].toNat = 34 ∨ (32 ≤ s[k].toNat ∧ s[k].toNat ≤ 126 ∧ s[k].toNat ≠ 34) := by omega
        rcases hc with hc | hc | hc | hc
        · go_wp2_with fail
          go_ret
          exact ⟨ret_bool (textOk_not hlt (textByte_no (Or.inl hc))).symm, rfl⟩
        · go_wp2_with fail
          go_ret
          exact ⟨ret_bool (textOk_not hlt (textByte_no (Or.inr (Or.inl hc)))).symm, rfl⟩
        · have HC := hide (textOk_not hlt (textByte_no (Or.inr (Or.inr hc))))
          go_wp2_with fail
          go_ret
          exact ⟨ret_bool (unhide HC).symm, rfl⟩
        · have HN := hide (allTo_succ HA.out hlt (textByte_yes hc))
          obtain ⟨hc1, hc2, hc3⟩ := hc
          have hb34 : ((s[k].toNat : Int) == 34) = false := by simp; omega
          go_wp2_with fail
          go_round
          case rel => exact ⟨k + 1, by omega, by go_num, HN⟩
          case measure => simp [intOf]; omega
      · go_wp2_with fail
        go_ret
        obtain rfl : k = s.size := by omega
        exact ⟨ret_bool (textOk_yes (by omega) HA.out).symm, rfl⟩
end Go.Proofs.YtgamonfmgngilaaGreatDoor

/- The walk of the specification's l1Alone: it answers whether a tree is ok but for its kids. No conditions. -/

namespace Go.Proofs.YtgamonfmgngilaaGreatDoor
open Go Go.RowKit

set_option maxHeartbeats 800000 in
theorem l1Alone_1 (t : Tr) (P : Nat → Prop) (c : C5) (w : World) (hP : ∀ b, P b → b < w.heap.size) (hrep : Rep P w t c) (hs : t.sort = 1) :
    Calls Tryz.prog 52 #[.agg #[c.c0, c.c1, c.c2, c.c3, c.c4]] w fun e w' => e = .returned (.bool (aloneB t)) ∧ Below w.heap.size w w' := by
  obtain ⟨c0, c1, c2, c3, c4⟩ := c
  obtain ⟨e0, e1, e2, -, -, htx, hns, a, cap, e4, hlen, -⟩ := hrep.open
  simp only at e0 e1 e2 e4 hns
  have HN := hide hns
  obtain ⟨a3, cap3, e3, hl3, -⟩ := hns
  subst e0 e1 e2 e3 e4
  clear hrep
  have HP := hide hP; clear hP
  have hbx : ∀ o, Below w.heap.size w (w.alloc o) := fun o => (Below.refl _ _).alloc (Nat.le_refl _) o
  have HBX := hide hbx; clear hbx
  go_enter Tryz.func52, Tryz.ntmps52
  go_wp2_with (first
    | (go_at_call 86; refine (l6In_any _ _ _ _).mono ?_; rintro e w' ⟨rfl, rfl⟩)
    | (go_at_call 87; refine (l1TextOk_any _ _ htx).mono ?_; rintro e w' ⟨rfl, rfl⟩))
  all_goals
    go_ret
    refine ⟨ret_bool ?_, unhide HBX _⟩
    try simp_all [aloneB]
  all_goals first | (rw [Bool.eq_iff_iff]; simp; done) | (intros; omega)
set_option maxHeartbeats 800000 in
theorem l1Alone_2 (t : Tr) (P : Nat → Prop) (c : C5) (w : World) (hP : ∀ b, P b → b < w.heap.size) (hrep : Rep P w t c) (hs : t.sort = 2) :
    Calls Tryz.prog 52 #[.agg #[c.c0, c.c1, c.c2, c.c3, c.c4]] w fun e w' => e = .returned (.bool (aloneB t)) ∧ Below w.heap.size w w' := by
  obtain ⟨c0, c1, c2, c3, c4⟩ := c
  obtain ⟨e0, e1, e2, -, -, htx, hns, a, cap, e4, hlen, -⟩ := hrep.open
  simp only at e0 e1 e2 e4 hns
  have HN := hide hns
  obtain ⟨a3, cap3, e3, hl3, -⟩ := hns
  subst e0 e1 e2 e3 e4
  clear hrep
  have HP := hide hP; clear hP
  have hbx : ∀ o, Below w.heap.size w (w.alloc o) := fun o => (Below.refl _ _).alloc (Nat.le_refl _) o
  have HBX := hide hbx; clear hbx
  go_enter Tryz.func52, Tryz.ntmps52
  go_wp2_with (first
    | (go_at_call 86; refine (l6In_any _ _ _ _).mono ?_; rintro e w' ⟨rfl, rfl⟩)
    | (go_at_call 87; refine (l1TextOk_any _ _ htx).mono ?_; rintro e w' ⟨rfl, rfl⟩))
  all_goals
    go_ret
    refine ⟨ret_bool ?_, unhide HBX _⟩
    try simp_all [aloneB]
  all_goals first | (rw [Bool.eq_iff_iff]; simp; done) | (intros; omega)
set_option maxHeartbeats 800000 in
theorem l1Alone_3 (t : Tr) (P : Nat → Prop) (c : C5) (w : World) (hP : ∀ b, P b → b < w.heap.size) (hrep : Rep P w t c) (hs : t.sort = 3) :
    Calls Tryz.prog 52 #[.agg #[c.c0, c.c1, c.c2, c.c3, c.c4]] w fun e w' => e = .returned (.bool (aloneB t)) ∧ Below w.heap.size w w' := by
  obtain ⟨c0, c1, c2, c3, c4⟩ := c
  obtain ⟨e0, e1, e2, -, -, htx, hns, a, cap, e4, hlen, -⟩ := hrep.open
  simp only at e0 e1 e2 e4 hns
  have HN := hide hns
  obtain ⟨a3, cap3, e3, hl3, -⟩ := hns
  subst e0 e1 e2 e3 e4
  clear hrep
  have HP := hide hP; clear hP
  have hbx : ∀ o, Below w.heap.size w (w.alloc o) := fun o => (Below.refl _ _).alloc (Nat.le_refl _) o
  have HBX := hide hbx; clear hbx
  go_enter Tryz.func52, Tryz.ntmps52
  go_wp2_with (first
    | (go_at_call 86; refine (l6In_any _ _ _ _).mono ?_; rintro e w' ⟨rfl, rfl⟩)
    | (go_at_call 87; refine (l1TextOk_any _ _ htx).mono ?_; rintro e w' ⟨rfl, rfl⟩))
  all_goals
    go_ret
    refine ⟨ret_bool ?_, unhide HBX _⟩
    try simp_all [aloneB]
  all_goals first | (rw [Bool.eq_iff_iff]; simp; done) | (intros; omega)
set_option maxHeartbeats 800000 in
theorem l1Alone_4 (t : Tr) (P : Nat → Prop) (c : C5) (w : World) (hP : ∀ b, P b → b < w.heap.size) (hrep : Rep P w t c) (hs : t.sort = 4) :
    Calls Tryz.prog 52 #[.agg #[c.c0, c.c1, c.c2, c.c3, c.c4]] w fun e w' => e = .returned (.bool (aloneB t)) ∧ Below w.heap.size w w' := by
  obtain ⟨c0, c1, c2, c3, c4⟩ := c
  obtain ⟨e0, e1, e2, -, -, htx, hns, a, cap, e4, hlen, -⟩ := hrep.open
  simp only at e0 e1 e2 e4 hns
  have HN := hide hns
  obtain ⟨a3, cap3, e3, hl3, -⟩ := hns
  subst e0 e1 e2 e3 e4
  clear hrep
  have HP := hide hP; clear hP
  have hbx : ∀ o, Below w.heap.size w (w.alloc o) := fun o => (Below.refl _ _).alloc (Nat.le_refl _) o
  have HBX := hide hbx; clear hbx
  go_enter Tryz.func52, Tryz.ntmps52
  go_wp2_with (first
    | (go_at_call 86; refine (l6In_any _ _ _ _).mono ?_; rintro e w' ⟨rfl, rfl⟩)
    | (go_at_call 87; refine (l1TextOk_any _ _ htx).mono ?_; rintro e w' ⟨rfl, rfl⟩))
  all_goals
    go_ret
    refine ⟨ret_bool ?_, unhide HBX _⟩
    try simp_all [aloneB]
  all_goals first | (rw [Bool.eq_iff_iff]; simp; done) | (intros; omega)
set_option maxHeartbeats 800000 in
theorem l1Alone_6 (t : Tr) (P : Nat → Prop) (c : C5) (w : World) (hP : ∀ b, P b → b < w.heap.size) (hrep : Rep P w t c) (hs : t.sort = 6) :
    Calls Tryz.prog 52 #[.agg #[c.c0, c.c1, c.c2, c.c3, c.c4]] w fun e w' => e = .returned (.bool (aloneB t)) ∧ Below w.heap.size w w' := by
  obtain ⟨c0, c1, c2, c3, c4⟩ := c
  obtain ⟨e0, e1, e2, -, -, htx, hns, a, cap, e4, hlen, -⟩ := hrep.open
  simp only at e0 e1 e2 e4 hns
  have HN := hide hns
  obtain ⟨a3, cap3, e3, hl3, -⟩ := hns
  subst e0 e1 e2 e3 e4
  clear hrep
  have HP := hide hP; clear hP
  have hbx : ∀ o, Below w.heap.size w (w.alloc o) := fun o => (Below.refl _ _).alloc (Nat.le_refl _) o
  have HBX := hide hbx; clear hbx
  go_enter Tryz.func52, Tryz.ntmps52
  go_wp2_with (first
    | (go_at_call 86; refine (l6In_any _ _ _ _).mono ?_; rintro e w' ⟨rfl, rfl⟩)
    | (go_at_call 87; refine (l1TextOk_any _ _ htx).mono ?_; rintro e w' ⟨rfl, rfl⟩))
  all_goals
    go_ret
    refine ⟨ret_bool ?_, unhide HBX _⟩
    try simp_all [aloneB]
  all_goals first | (rw [Bool.eq_iff_iff]; simp; done) | (intros; omega)
set_option maxHeartbeats 800000 in
theorem l1Alone_0 (t : Tr) (P : Nat → Prop) (c : C5) (w : World) (hP : ∀ b, P b → b < w.heap.size) (hrep : Rep P w t c) (h1 : t.sort ≠ 1) (h2 : t.sort ≠ 2) (h3 : t.sort ≠ 3) (h4 : t.sort ≠ 4) (h5 : t.sort ≠ 5) (h6 : t.sort ≠ 6) :
    Calls Tryz.prog 52 #[.agg #[c.c0, c.c1, c.c2, c.c3, c.c4]] w fun e w' => e = .returned (.bool (aloneB t)) ∧ Below w.heap.size w w' := by
  obtain ⟨c0, c1, c2, c3, c4⟩ := c
  obtain ⟨e0, e1, e2, -, -, htx, hns, a, cap, e4, hlen, -⟩ := hrep.open
  simp only at e0 e1 e2 e4 hns
  have HN := hide hns
  obtain ⟨a3, cap3, e3, hl3, -⟩ := hns
  subst e0 e1 e2 e3 e4
  clear hrep
  have HP := hide hP; clear hP
  have hbx : ∀ o, Below w.heap.size w (w.alloc o) := fun o => (Below.refl _ _).alloc (Nat.le_refl _) o
  have HBX := hide hbx; clear hbx
  go_enter Tryz.func52, Tryz.ntmps52
  go_wp2_with (first
    | (go_at_call 86; refine (l6In_any _ _ _ _).mono ?_; rintro e w' ⟨rfl, rfl⟩)
    | (go_at_call 87; refine (l1TextOk_any _ _ htx).mono ?_; rintro e w' ⟨rfl, rfl⟩))
  all_goals
    go_ret
    refine ⟨ret_bool ?_, unhide HBX _⟩
    try simp_all [aloneB]
  all_goals first | (rw [Bool.eq_iff_iff]; simp; done) | (intros; omega)
set_option maxHeartbeats 800000 in
theorem l1Alone_5 (t : Tr) (P : Nat → Prop) (c : C5) (w : World) (hP : ∀ b, P b → b < w.heap.size) (hrep : Rep P w t c) (hs : t.sort = 5) :
    Calls Tryz.prog 52 #[.agg #[c.c0, c.c1, c.c2, c.c3, c.c4]] w fun e w' => e = .returned (.bool (aloneB t)) ∧ Below w.heap.size w w' := by
  obtain ⟨c0, c1, c2, c3, c4⟩ := c
  obtain ⟨e0, e1, e2, -, -, htx, hns, a, cap, e4, hlen, -⟩ := hrep.open
  simp only at e0 e1 e2 e4 hns
  have HN := hide hns
  obtain ⟨a3, cap3, e3, hl3, -⟩ := hns
  subst e0 e1 e2 e3 e4
  clear hrep
  have HP := hide hP; clear hP
  have hbx : ∀ o, Below w.heap.size w (w.alloc o) := fun o => (Below.refl _ _).alloc (Nat.le_refl _) o
  have HBX := hide hbx; clear hbx
  have hcall : ∀ o, Calls Tryz.prog 88 #[.slice a3 t.names.length cap3] (w.alloc o) fun e w' => e = .returned (.bool (riseB t.names)) ∧ Below w.heap.size w w' := fun o =>
    (l1Rise_any _ t.names (w.alloc o) (P := P) (fun b hb => Nat.lt_of_lt_of_le (unhide HP b hb) (unhide HBX o).size) ((unhide HN).carry (fun b hb => (unhide HBX o).block b (unhide HP b hb)) (fun _ h => h))).mono
      fun e w' ⟨h1, h2⟩ => ⟨h1, (unhide HBX o).trans (h2.mono (unhide HBX o).size)⟩
  have HC := hide hcall; clear hcall
  go_enter Tryz.func52, Tryz.ntmps52
  go_wp2_with (go_at_call 88; refine (unhide HC _).mono ?_; rintro e w' ⟨rfl, hb'⟩)
  all_goals
    go_ret
    refine ⟨ret_bool ?_, by first | assumption | exact unhide HBX _⟩
    try simp_all [aloneB]
  all_goals first | (rw [Bool.eq_iff_iff]; simp; done) | (intros; omega)

theorem l1Alone_any (t : Tr) (P : Nat → Prop) (c : C5) (w : World) (hP : ∀ b, P b → b < w.heap.size) (hrep : Rep P w t c) :
    Calls Tryz.prog 52 #[.agg #[c.c0, c.c1, c.c2, c.c3, c.c4]] w fun e w' => e = .returned (.bool (aloneB t)) ∧ Below w.heap.size w w' := by
  by_cases h1 : t.sort = 1
  · exact l1Alone_1 t P c w hP hrep h1
  by_cases h2 : t.sort = 2
  · exact l1Alone_2 t P c w hP hrep h2
  by_cases h3 : t.sort = 3
  · exact l1Alone_3 t P c w hP hrep h3
  by_cases h4 : t.sort = 4
  · exact l1Alone_4 t P c w hP hrep h4
  by_cases h5 : t.sort = 5
  · exact l1Alone_5 t P c w hP hrep h5
  by_cases h6 : t.sort = 6
  · exact l1Alone_6 t P c w hP hrep h6
  exact l1Alone_0 t P c w hP hrep h1 h2 h3 h4 h5 h6
end Go.Proofs.YtgamonfmgngilaaGreatDoor

/- The walks of the specification's l1Parts, TreeOk and TreeParts: what they answer. No conditions. -/

namespace Go.Proofs.YtgamonfmgngilaaGreatDoor
open Go Go.RowKit

def PartsSaid (n : Nat) : Prop := ∀ (t : Tr), tsz t < n → ∀ (P : Nat → Prop) (c : C5) (d : Int) (w : World), (∀ b, P b → b < w.heap.size) → Rep P w t c → 1 ≤ d → d ≤ 7 →
    Calls Tryz.prog 24 #[.agg #[c.c0, c.c1, c.c2, c.c3, c.c4], .int .i64 d] w fun e w' => e = .returned (.int .i64 (pT t d)) ∧ Below w.heap.size w w'

set_option maxHeartbeats 400000 in
theorem l1Parts_step (n : Nat) (IH : PartsSaid n) : PartsSaid (n + 1) := by
  intro t hn P c d w hP hrep hd0 hd1
  have HREP := hide hrep
  have HEQ := hide (pT_eq t d)
  obtain ⟨c0, c1, c2, c3, c4⟩ := c
  obtain ⟨e0, e1, e2, -, -, -, ⟨a3, cap3, e3, -, -⟩, a, cap, e4, hlen, hks⟩ := hrep.open
  simp only at e0 e1 e2 e3 e4
  subst e0 e1 e2 e3 e4
  have HP := hide hP; have HI := hide IH; have HK := hide hks
  clear hrep hP IH hks
  have hbx : ∀ o, Below w.heap.size w (w.alloc o) := fun o => (Below.refl _ _).alloc (Nat.le_refl _) o
  have HBX := hide hbx; clear hbx
  by_cases h6 : 6 < d
  · go_enter Tryz.func24, Tryz.ntmps24
    go_wp2_with fail
    go_ret
    refine ⟨?_, unhide HBX _⟩
    rw [unhide HEQ, if_pos (Or.inl h6)]
    rfl
  · have hal : ∀ o, Calls Tryz.prog 52 #[.agg #[.int .i64 t.sort, .int .i64 t.num, .string t.text, .slice a3 t.names.length cap3, .slice a t.kids.length cap]] (w.alloc o) fun e w' => e = .returned (.bool (aloneB t)) ∧ Below (w.alloc o).heap.size (w.alloc o) w' := fun o =>
      l1Alone_any t P ⟨_, _, _, _, _⟩ (w.alloc o) (fun b hb => Nat.lt_of_lt_of_le (unhide HP b hb) (unhide HBX o).size) (Rep.carry (fun b hb => (unhide HBX o).block b (unhide HP b hb)) (fun _ h => h) _ _ (unhide HREP))
    have HAL := hide hal; clear hal
    by_cases ha : aloneB t = true
    · go_enter Tryz.func24, Tryz.ntmps24
      go_wp2_with (go_at_call 52; refine (unhide HAL _).mono ?_; rintro e w' ⟨rfl, hb'⟩)
      obtain ⟨q0, -, hb0⟩ := box1 hb'
      have hpk : pT t d = pK t.kids d 1 := by rw [unhide HEQ, if_neg (by simp [ha]; omega)]
      have HPK := hide hpk
      clear hb' hpk HEQ HAL
      generalize hks : t.kids = ks at *
      have HKS := hide hks; clear hks
      go_loopw [5, 6] (fun m i wr => ∃ (k : Nat) (q : Int), k ≤ ks.length ∧ i = .int .i64 k ∧ m = .int .i64 q ∧ 1 ≤ q ∧ q ≤ 120 ∧ Hid (pK (ks.drop k) d q = pK ks d 1) ∧ wr.cell? ⟨w.heap.size, 4, none⟩ = some (.slice a ks.length cap) ∧ w.heap.size < wr.heap.size ∧ Below w.heap.size w wr) (fun _ i _ => ks.length - (intOf i).toNat)
      case atStart => exact ⟨0, 1, Nat.zero_le _, rfl, rfl, by omega, by omega, rfl, q0.cell (i := 4) (by omega), q0.lt, hb0⟩
      case round =>
        obtain ⟨k, q, hk, rfl, rfl, hq0, hq1, HQ, hbox, hbs, hb⟩ := hrel
        by_cases hlt : k < ks.length
        · obtain ⟨b, o, c, rfl, hpb, hcell, hrep⟩ := unhide HK k hlt
          have hcell' := hcell.carry (hb.block b (unhide HP b hpb))
          obtain ⟨c0, c1, c2, c3, c4⟩ := c
          obtain ⟨e0, e1, e2, e3, e4⟩ := hcell'
          simp only at e0 e1 e2 e3 e4
          have hmem : ks[k] ∈ t.kids := by rw [unhide HKS]; exact List.getElem_mem hlt
          have hsm : tsz ks[k] < n := by have := tsz_kid hmem; omega
          have hcall := unhide HI ks[k] hsm P ⟨c0, c1, c2, c3, c4⟩ (d + 1) wr (fun b hb' => Nat.lt_of_lt_of_le (unhide HP b hb') hb.size) (Rep.carry (fun b hb' => hb.block b (unhide HP b hb')) (fun _ h => h) _ _ hrep) (by omega) (by omega)
          have hst := pK_step hlt d q
          have hbd := pT_bd ks[k] (d + 1)
          generalize pT ks[k] (d + 1) = r at hcall hst hbd
          have HCALL := hide hcall; have HST := hide hst
          clear hrep hcell hpb hmem hcall hst
          by_cases hbad : r < 0 ∨ 120 < q + r
          · have hfin : pT t d = -1 := by rw [unhide HPK, ← HQ.out, unhide HST, if_pos hbad]
            have HFIN := hide hfin; clear hfin
            rcases hbad with hbad | hbad
            · go_wp2_with (go_at_call 24; refine (unhide HCALL).mono ?_; rintro e w2 ⟨rfl, hb2⟩)
              go_ret
              exact ⟨by rw [unhide HFIN]; rfl, hb.trans (hb2.mono hb.size)⟩
            · have hr0 : 0 ≤ r := by omega
              go_wp2_with (go_at_call 24; refine (unhide HCALL).mono ?_; rintro e w2 ⟨rfl, hb2⟩)
              go_ret
              exact ⟨by rw [unhide HFIN]; rfl, hb.trans (hb2.mono hb.size)⟩
          · have hr0 : 0 ≤ r := by omega
            have hr1 : q + r ≤ 120 := by omega
            have hfin : pK (ks.drop (k + 1)) d (q + r) = pK ks d 1 := by rw [← HQ.out, unhide HST, if_neg hbad]
            have HFIN := hide hfin
            clear hfin hbad
            go_wp2_with (go_at_call 24; refine (unhide HCALL).mono ?_; rintro e w2 ⟨rfl, hb2⟩)
            go_roundw
            case rel => exact ⟨k + 1, _, by omega, by go_num, rfl, by omega, by omega, unhide HFIN, by rw [hb2.cell hbs]; exact hbox, Nat.lt_of_lt_of_le hbs hb2.size, hb.trans (hb2.mono hb.size)⟩
            case measure => simp [intOf]; omega
        · go_wp2_with fail
          go_ret
          refine ⟨?_, hb⟩
          rw [unhide HPK, ← HQ.out, List.drop_of_length_le (by omega), pK]
          rfl
    · have ha' : aloneB t = false := by simpa using ha
      clear ha
      go_enter Tryz.func24, Tryz.ntmps24
      go_wp2_with (go_at_call 52; refine (unhide HAL _).mono ?_; rintro e w' ⟨rfl, hb'⟩)
      go_ret
      refine ⟨?_, (box1 hb').2.2⟩
      rw [unhide HEQ, if_pos (Or.inr ha')]
      rfl

theorem l1Parts_all : ∀ n, PartsSaid n
  | 0 => fun t h => by omega
  | n + 1 => l1Parts_step n (l1Parts_all n)

set_option maxHeartbeats 400000 in
theorem specTreeOk_any (t : Tr) (P : Nat → Prop) (c : C5) (w : World) (hP : ∀ b, P b → b < w.heap.size) (hrep : Rep P w t c) :
    Calls Tryz.prog 8 #[.agg #[c.c0, c.c1, c.c2, c.c3, c.c4]] w fun e w' => e = .returned (.bool (decide (0 < pT t 1))) ∧ Below w.heap.size w w' := by
  have hbx : ∀ o, Below w.heap.size w (w.alloc o) := fun o => (Below.refl _ _).alloc (Nat.le_refl _) o
  have hcall : ∀ o, Calls Tryz.prog 24 #[.agg #[c.c0, c.c1, c.c2, c.c3, c.c4], .int .i64 1] (w.alloc o) fun e w' => e = .returned (.int .i64 (pT t 1)) ∧ Below w.heap.size w w' := fun o =>
    (l1Parts_all (tsz t + 1) t (by omega) P c 1 (w.alloc o) (fun b hb => Nat.lt_of_lt_of_le (hP b hb) (hbx o).size) (Rep.carry (fun b hb => (hbx o).block b (hP b hb)) (fun _ h => h) _ _ hrep) (by omega) (by omega)).mono
      fun e w' ⟨h1, h2⟩ => ⟨h1, (hbx o).trans (h2.mono (hbx o).size)⟩
  generalize pT t 1 = r at *
  have HCALL := hide hcall
  clear hbx hcall hP hrep
  go_enter Tryz.func8, Tryz.ntmps8
  go_wp2_with (go_at_call 24; refine (unhide HCALL _).mono ?_; rintro e w2 ⟨rfl, hb2⟩)
  go_ret
  exact ⟨rfl, hb2⟩
end Go.Proofs.YtgamonfmgngilaaGreatDoor
